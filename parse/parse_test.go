package parse_test

import (
	"strings"
	"testing"

	"scriptor/api"
	"scriptor/parse"
)

// P11.1: of each line of the table of expressions, what it is, and where.
func TestExpressions(t *testing.T) {
	for src, want := range map[string]string{
		"(do 12)":                          "Do@1 [Int@5 #12]",
		"(do -3)":                          "Do@1 [Int@5 #-3]",
		"(do 1.5)":                         "Do@1 [Float@5 \x3f\xf8\x00\x00\x00\x00\x00\x00]",
		"(do \"a\\n\\x41\")":               "Do@1 [Str@5 a\nA]",
		"(do \"\")":                        "Do@1 [Str@5]",
		"(do ( ))":                         "Do@1 [Unit@5]",
		"(do x)":                           "Do@1 [Var@5 x]",
		"(do ->)":                          "Do@1 [Var@5 ->]",
		"(do ref)":                         "Do@1 [Var@5 ref]",
		"(do -1.)":                         "Do@1 [Var@5 -1.]",
		"(do Nil)":                         "Do@1 [Con@5 Nil]",
		"(do (Some 1))":                    "Do@1 [Con@5 Some [Int@11 #1]]",
		"(do (C 1 2 3 4 5 6 7 8))":         "Do@1 [Con@5 C [Int@8 #1, Int@10 #2, Int@12 #3, Int@14 #4, Int@16 #5, Int@18 #6, Int@20 #7, Int@22 #8]]",
		"(do (fn (x _) y))":                "Do@1 [Fn@5 [PVar@10 x, PAny@12, Var@15 y]]",
		"(do (fn (_) ()))":                 "Do@1 [Fn@5 [PAny@10, Unit@13]]",
		"(do (fn (x x a b c d e _) x))":    "Do@1 [Fn@5 [PVar@10 x, PVar@12 x, PVar@14 a, PVar@16 b, PVar@18 c, PVar@20 d, PVar@22 e, PAny@24, Var@27 x]]",
		"(do (let x 1 2))":                 "Do@1 [Let@5 x [Int@12 #1, Int@14 #2]]",
		"(do (let _ 1 2))":                 "Do@1 [Let@5 _ [Int@12 #1, Int@14 #2]]",
		"(do (rec f (fn (x) x) f))":        "Do@1 [Rec@5 f [Fn@12 [PVar@17 x, Var@20 x], Var@23 f]]",
		"(do (if a b c))":                  "Do@1 [If@5 [Var@9 a, Var@11 b, Var@13 c]]",
		"(do (seq a))":                     "Do@1 [Seq@5 [Var@10 a]]",
		"(do (seq a 1 Nil))":               "Do@1 [Seq@5 [Var@10 a, Int@12 #1, Con@14 Nil]]",
		"(do (tuple a b))":                 "Do@1 [Tup@5 [Var@12 a, Var@14 b]]",
		"(do (tuple a b c d e f g h))":     "Do@1 [Tup@5 [Var@12 a, Var@14 b, Var@16 c, Var@18 d, Var@20 e, Var@22 f, Var@24 g, Var@26 h]]",
		"(do (case e (x 1)))":              "Do@1 [Case@5 [Var@11 e, Arm@13 [PVar@14 x, Int@16 #1]]]",
		"(do (case e (x 1) (_ 2)))":        "Do@1 [Case@5 [Var@11 e, Arm@13 [PVar@14 x, Int@16 #1], Arm@19 [PAny@20, Int@22 #2]]]",
		"(do (try e (x 1)))":               "Do@1 [Try@5 [Var@10 e, Arm@12 [PVar@13 x, Int@15 #1]]]",
		"(do (raise e))":                   "Do@1 [Raise@5 [Var@12 e]]",
		"(do (transact e))":                "Do@1 [Trans@5 [Var@15 e]]",
		"(do (f a))":                       "Do@1 [App@5 [Var@6 f, Var@8 a]]",
		"(do (f 1 2 3 4 5 6 7 8))":         "Do@1 [App@5 [Var@6 f, Int@8 #1, Int@10 #2, Int@12 #3, Int@14 #4, Int@16 #5, Int@18 #6, Int@20 #7, Int@22 #8]]",
		"(do (1 2))":                       "Do@1 [App@5 [Int@6 #1, Int@8 #2]]",
		"(do (\"fn\" (x) 1))":              "", // (x) is no expression
		"(do (\"fn\" x))":                  "Do@1 [App@5 [Str@6 fn, Var@11 x]]",
		"(do (() ()))":                     "Do@1 [App@5 [Unit@6, Unit@9]]",
		"(do ((f a) b))":                   "Do@1 [App@5 [App@6 [Var@7 f, Var@9 a], Var@12 b]]",
		"(do ((fn (x) x) b))":              "Do@1 [App@5 [Fn@6 [PVar@11 x, Var@14 x], Var@17 b]]",
		"(do ((Some 1) b))":                "Do@1 [App@5 [Con@6 Some [Int@12 #1], Var@15 b]]",
		"(do (ref (pref (-> x))))":         "Do@1 [App@5 [Var@6 ref, App@10 [Var@11 pref, App@16 [Var@17 ->, Var@20 x]]]]",
		"(do\n (f ; c\n\n   a))":           "Do@1 [App@2:2 [Var@2:3 f, Var@4:4 a]]",
		"(do(let f(fn(x)x)(f\"a\"(C()))))": "Do@1 [Let@4 f [Fn@10 [PVar@14 x, Var@16 x], App@18 [Var@19 f, Str@20 a, Con@23 C [Unit@25]]]]",
	} {
		if want == "" {
			refused(t, src, pos(1, 11))
		} else if got := tell(must(t, src)); got != want {
			t.Errorf("%q: %s, not %s", src, got, want)
		}
	}
}

// P11.1: patterns.
func TestPatterns(t *testing.T) {
	for p, want := range map[string]string{
		"_":                          "PAny@14",
		"x":                          "PVar@14 x",
		"->":                         "PVar@14 ->",
		"-5":                         "PInt@14 #-5",
		"\"a\"":                      "PStr@14 a",
		"()":                         "PUnit@14",
		"Nil":                        "PCon@14 Nil",
		"(Cons x _)":                 "PCon@14 Cons [PVar@20 x, PAny@22]",
		"(C 1 2 3 4 5 6 7 8)":        "PCon@14 C [PInt@17 #1, PInt@19 #2, PInt@21 #3, PInt@23 #4, PInt@25 #5, PInt@27 #6, PInt@29 #7, PInt@31 #8]",
		"(tuple x y)":                "PTup@14 [PVar@21 x, PVar@23 y]",
		"(tuple _ _ _ _ _ _ _ _)":    "PTup@14 [PAny@21, PAny@23, PAny@25, PAny@27, PAny@29, PAny@31, PAny@33, PAny@35]",
		"(A (tuple (B x) \"\" Nil))": "PCon@14 A [PTup@17 [PCon@24 B [PVar@27 x], PStr@30, PCon@33 Nil]]",
	} {
		for word, op := range map[string]string{"case": "Case", "try ": "Try"} {
			got := tell(must(t, "(do ("+word+" 1 ("+p+" y)))"))
			got, ok := strings.CutPrefix(got, "Do@1 ["+op+"@5 [Int@11 #1, Arm@13 [")
			if got, _, _ = strings.Cut(got, ", Var@"); !ok || got != want {
				t.Errorf("%s: %s, not %s", p, got, want)
			}
		}
	}
	// In two arms, and within one around another, a variable may stand again.
	must(t, "(do (case x ((tuple x y) 1) ((tuple y x) (case x (x (try x (x x)))))))")
}

// P11.1: types.
func TestTypes(t *testing.T) {
	for src, want := range map[string]string{
		"'a":                      "TVar@9 'a",
		"''":                      "TVar@9 ''",
		"'->":                     "TVar@9 '->",
		"int":                     "TName@9 int",
		"(list int)":              "TName@9 list [TName@15 int]",
		"(t a b c d e f g h)":     "TName@9 t [TName@12 a, TName@14 b, TName@16 c, TName@18 d, TName@20 e, TName@22 f, TName@24 g, TName@26 h]",
		"(-> a b)":                "TName@9 -> [TName@13 a, TName@15 b]",
		"(-> a b c)":              "TName@9 -> [TName@13 a, TName@9 -> [TName@15 b, TName@17 c]]",
		"(-> a b c 'd)":           "TName@9 -> [TName@13 a, TName@9 -> [TName@15 b, TName@9 -> [TName@17 c, TVar@19 'd]]]",
		"(-> a (-> b c))":         "TName@9 -> [TName@13 a, TName@15 -> [TName@19 b, TName@21 c]]",
		"(-> (-> a b c) d e)":     "TName@9 -> [TName@13 -> [TName@17 a, TName@13 -> [TName@19 b, TName@21 c]], TName@9 -> [TName@24 d, TName@26 e]]",
		"(tuple a b)":             "TName@9 tuple [TName@16 a, TName@18 b]",
		"(tuple a b c d e f g h)": "TName@9 tuple [TName@16 a, TName@18 b, TName@20 c, TName@22 d, TName@24 e, TName@26 f, TName@28 g, TName@30 h]",
		"(ref a)":                 "TName@9 ref [TName@14 a]",
		"(pref (ref 'a))":         "TName@9 pref [TName@15 ref [TVar@20 'a]]",
	} {
		got, ok := strings.CutPrefix(tell(must(t, "(root r "+src+" 1)")), "Root@1 r [")
		if got = got[:strings.LastIndex(got, ", Int@")]; !ok || got != want {
			t.Errorf("%q: %s, not %s", src, got, want)
		}
	}
}

// P11.1: what a program is made of.
func TestDefinitions(t *testing.T) {
	for src, want := range map[string]string{
		"":                                       "",
		" ; nothing\n":                           "",
		"(def f (fn (x) (+ x 1)))":               "Def@1 f [Fn@8 [PVar@13 x, App@16 [Var@17 +, Var@19 x, Int@21 #1]]]",
		"(data t () (A))":                        "Data@1 t [DCon@12 A]",
		"(data list ('a) (Nil) (C 'a t))":        "Data@1 list [TVar@13 'a, DCon@17 Nil, DCon@23 C [TVar@26 'a, TName@29 t]]",
		"(data t ('a 'a) (A) (A))":               "Data@1 t [TVar@10 'a, TVar@13 'a, DCon@17 A, DCon@21 A]",
		"(data t (''''''''' 'a) (A))":            "Data@1 t [TVar@10 ''''''''', TVar@20 'a, DCon@24 A]",
		"(data t ('a 'b 'c 'd 'e 'f 'g 'h) (A))": "Data@1 t [TVar@10 'a, TVar@13 'b, TVar@16 'c, TVar@19 'd, TVar@22 'e, TVar@25 'f, TVar@28 'g, TVar@31 'h, DCon@35 A]",
		"(data t () (A a b c d e f g h))":        "Data@1 t [DCon@12 A [TName@15 a, TName@17 b, TName@19 c, TName@21 d, TName@23 e, TName@25 f, TName@27 g, TName@29 h]]",
		"(root r (list int) Nil)":                "Root@1 r [TName@9 list [TName@15 int], Con@20 Nil]",
		"(def -> x)":                             "Def@1 -> [Var@9 x]",
		"(def x 1.0)":                            "Def@1 x [Float@8 \x3f\xf0\x00\x00\x00\x00\x00\x00]",
		"(rec f (fn (x) x))":                     "DefRec@1 f [Fn@8 [PVar@13 x, Var@16 x]]",
		"(do 1) (do 2)\n(do 3)":                  "Do@1 [Int@5 #1], Do@8 [Int@12 #2], Do@2:1 [Int@2:5 #3]",
		"(def ref 1)(root pref t 1)":             "Def@1 ref [Int@10 #1], Root@12 pref [TName@23 t, Int@25 #1]",
	} {
		if got := tell(must(t, src)); got != want {
			t.Errorf("%q: %s, not %s", src, got, want)
		}
	}
}

// P11.1, P4: in each place each tree that isn't what should stand there is told by its own place.
func TestWrongTrees(t *testing.T) {
	for _, s := range wrongDefinitions {
		refused(t, s, pos(1, 1))
		refused(t, "(do 1)\n "+s+" x", pos(2, 2))
	}
	for _, s := range wrongConstructors {
		refused(t, "(data t ()\n "+s+")", pos(2, 2))
		refused(t, "(data t () (A)\n "+s+" B)", pos(2, 2))
	}
	for _, s := range wrongTypes {
		refused(t, "(root r\n "+s+" fn)", pos(2, 2))
		refused(t, "(data t () (A int\n "+s+" fn))", pos(2, 2))
		refused(t, "(root r (list (-> (tuple (ref\n "+s+") fn) fn)) fn)", pos(2, 2))
		refused(t, "(root r (-> int\n "+s+" fn) fn)", pos(2, 2))
	}
	for _, s := range wrongExpressions {
		for _, around := range []string{
			"(do $)", "(def x $)", "(root r int $)", "(do (C 1 $ fn))", "(do (fn (x) $))", "(do (let x $ fn))", "(do (let x 1 $))", "(do (rec f (fn (x) $) fn))",
			"(do (rec f (fn (x) x) $))", "(rec f (fn (_) $))", "(do (if $ fn 1))", "(do (if 1 $ fn))", "(do (if 1 2 $))", "(do (seq $ fn))", "(do (seq 1 2 3 $))",
			"(do (tuple 1 $))", "(do (case $ fn))", "(do (case 1 (x $) fn))", "(do (case 1 (x x) (x $)))", "(do (try $ (x fn)))", "(do (try 1 (x $) (fn fn)))",
			"(do (raise $))", "(do (transact $))", "(do (f $ fn))", "(do (f 1 $))",
		} {
			refused(t, strings.ReplaceAll(around, "$", "\n "+s), pos(2, 2))
		}
	}
	for _, s := range wrongFunctions {
		refused(t, "(rec f\n "+s+")", pos(2, 2))
		refused(t, "(do (rec f\n "+s+" fn))", pos(2, 2))
	}
	for _, s := range wrongArms {
		refused(t, "(do (case 1\n "+s+" fn))", pos(2, 2))
		refused(t, "(do (try 1 (x x)\n "+s+" (fn fn)))", pos(2, 2))
	}
	for _, s := range wrongPatterns {
		refused(t, "(do (case 1 (\n "+s+" fn) fn))", pos(2, 2))
		refused(t, "(do (try 1 (x x) ((C _ (tuple x\n "+s+" fn)) fn)))", pos(2, 2))
	}
}

// P11.1, P4: of several wrong trees the one that begins first is told; a tree is ahead of those within it.
func TestFirstWrongTree(t *testing.T) {
	for _, src := range []string{
		"(do ^(let 1 2 3))", "(do ^(f))", "(do (^_ 1))", "(do (^'a _))", "(do (f ^(g) (h)))", "(do (f ^_ fn))", "(do ^(let X fn fn))", "(do (let x ^fn _))",
		"(do 1) ^x y", "(do 1) ^(do) (do)", "^(do fn fn)", "^(data T (1) fn)", "^(data t (1) fn)", "(data t ('a) ^fn 1)", "(data t () (A ^fn) 1)", "(data t () ^(a fn) 1)",
		"(root r ^_ fn)", "(root r int ^fn)", "^(root R _ fn)", "^(rec f (x) fn)", "(rec f ^(fn (1) fn))", "(rec f (fn (x) ^fn))", "(do (rec f ^(fn) fn))", "(do ^(rec f 1 fn))",
		"(do ^(fn (1) fn))", "(do (case ^fn fn))", "(do (case 1 ^fn (fn fn)))", "(do (case 1 (^fn fn) fn))", "(do (case 1 (x ^fn) fn))", "(do ^(case fn))", "(do (try 1 ^(fn fn fn)))",
		"(root r (-> ^(-> int) fn) fn)", "(root r (list ^->) 1)", "(root r (-> int ^(list)) 1)", "(do (if 1 (if 2 3 4) ^(if 5 6)))", "(do (tuple (C 1) ^(C)))",
		"(do ((fn (x) ^(x)) fn))",
	} {
		marked(t, src)
	}
}

// P11.1: a variable that stands twice in a pattern.
func TestTwins(t *testing.T) {
	for _, src := range []string{
		"(do (case 1 (^(tuple x x) 1)))", "(do (case 1 (^(C x (tuple 1 (D (tuple _ x)))) fn)))", "(do (try 1 (y 1) (^(tuple (C x) y x) 1) (fn fn)))",
		"(do (case 1 ((tuple x x ^fn) 1)))", "(do (case 1 ((tuple x x (C 1 ^(C))) 1)))", "(do (case 1 (^(tuple x x 1) fn)))", "(do (case 1 (^(C -> y z ->) 1)))",
		"(do (case (case 1 (^(tuple x x) 1)) ((tuple x x) 1)))", "(do (case 1 (x (case 1 (^(tuple x x) 1)))))", "(do (case 1 ((tuple x y) ^fn)))",
	} {
		marked(t, src)
	}
	for _, src := range []string{"(do (case 1 ((tuple _ _) 1)))", "(do (case 1 ((tuple x X y (X X)) 1)))", "(do (case 1 ((C x (C y) z x') x)))", "(do (fn (x x) x))"} {
		must(t, src)
	}
}

// P11.1: brackets come ahead of all else that parse asks for: the first that closes none, or is too deep; then the
// first that isn't closed.
func TestBrackets(t *testing.T) {
	for _, src := range []string{
		"^)", "(do 1)^)", "x ^)", "(do 1) ^)(", "(do fn) ^) x", "(do (f))^)\n(", "()^))", "^(do (f 1)", "^(", "^((((", "(do 1) ^(do (f 1)", "(x) ^(y (z) (", "^(()", "^(fn ( (x)\n",
		"x\n y ^(z", "\"(\" ; (\n^)", "^(do 1 ; )", "^(do \")\"",
	} {
		marked(t, src)
	}
	deep := func(n int) string { return strings.Repeat("(", n) }
	shut := func(n int) string { return strings.Repeat(")", n) }
	refused(t, deep(200), pos(1, 1))
	refused(t, deep(201), pos(1, 201))
	refused(t, deep(300), pos(1, 201))
	refused(t, "()"+deep(201)+shut(201), pos(1, 203))
	refused(t, deep(200)+"()"+shut(200)+")", pos(1, 201))
	refused(t, deep(200)+shut(200), pos(1, 1))
	refused(t, deep(200)+shut(201), pos(1, 401))
	refused(t, ")"+deep(201), pos(1, 1))
	refused(t, deep(199)+"()()x()((", pos(1, 208))
}

// P11.1: MaxDepth, in expressions, patterns and types.
func TestDepth(t *testing.T) {
	nest := func(n int, ahead, kernel string) string {
		return strings.Repeat(ahead, n) + kernel + strings.Repeat(")", n)
	}
	must(t, "(do "+nest(api.MaxDepth-1, "(seq ", "1")+")")
	refused(t, "(do "+nest(api.MaxDepth, "(seq ", "1")+")", pos(1, 5+5*(api.MaxDepth-1)))
	must(t, "(do "+nest(api.MaxDepth-2, "(seq ", "()")+")")
	refused(t, "(do "+nest(api.MaxDepth-1, "(seq ", "()")+")", pos(1, 5+5*(api.MaxDepth-1)))
	must(t, "(do (case 1 ("+nest(api.MaxDepth-3, "(C ", "x")+" 1)))")
	refused(t, "(do (case 1 ("+nest(api.MaxDepth-2, "(C ", "x")+" 1)))", pos(1, 14+3*(api.MaxDepth-3)))
	must(t, "(root r "+nest(api.MaxDepth-1, "(ref ", "int")+" 1)")
	refused(t, "(root r "+nest(api.MaxDepth, "(ref ", "int")+" 1)", pos(1, 9+5*(api.MaxDepth-1)))
}

// P11.1: there is no limit of nodes, of parts of seq, of arms, of constructors, of an arrow's types.
func TestMany(t *testing.T) {
	for src, kids := range map[string]int{
		"(do (seq " + many(30000, "1") + "))":        30000,
		"(do (case 1 " + many(10000, "(_ 1)") + "))": 10001,
		"(do (try 1 " + many(10000, "(x 1)") + "))":  10001,
	} {
		if n := must(t, src)[0].Kids[0]; len(n.Kids) != kids {
			t.Errorf("%.10s..: %d", src, len(n.Kids))
		}
	}
	if l := must(t, "(data t () "+many(13000, "(A)")+")"); len(l[0].Kids) != 13000 {
		t.Error(len(l[0].Kids))
	}
	if l := must(t, many(9000, "(do 1)")); len(l) != 9000 {
		t.Error(len(l))
	}
	n := must(t, "(root r (-> "+many(32000, "t")+") 1)")[0].Kids[0]
	for i := range 31999 {
		if n.Text != "->" || n.At != pos(1, 9) || len(n.Kids) != 2 || n.Kids[0].At != pos(1, 13+2*i) {
			t.Fatalf("arrow %d: %v", i, n.At)
		}
		n = n.Kids[1]
	}
	if n.Text != "t" || len(n.Kids) != 0 {
		t.Error(n)
	}
}

// P11.1: errors and places of the tokens come first.
func TestLexErrors(t *testing.T) {
	for _, src := range []string{") ^#", "(do fn) ^12a", "(do (((( ^\"", "^\"abc", "(do \"\\^q\")", "(do 1) ^A-b", "(do ^4611686018427387904)", "(do ^12345678.12345678)"} {
		marked(t, src)
	}
	for _, src := range []string{strings.Repeat(" ", api.MaxText+1), strings.Repeat(")", api.MaxText+1), strings.Repeat("#", api.MaxText+1)} {
		if l, at, e := parse.Program(src); e != api.ErrBig || at != (api.Pos{}) || len(l) != 0 {
			t.Errorf("%.3s..: %d at %v", src, e, at)
		}
	}
	must(t, "(do 1)"+strings.Repeat(" ", api.MaxText-6))
}

// P11.1, P4: programs that are made up, with all their places; and such with wrong trees in them, of which the first
// is told.
func TestMadeUp(t *testing.T) {
	fine, wrong := 0, 0
	for seed := range 6000 {
		m := newMaker(seed, []int{0, 100, 30, 10}[seed%4])
		want := several(1+m.dice.below(3), m.definition)
		src := m.text.String()
		if len(src) > api.MaxText {
			continue
		}
		l, at, e := parse.Program(src)
		if m.wrong != (api.Pos{}) {
			wrong++
			if e != api.ErrSyntax || at != m.wrong || len(l) != 0 {
				t.Fatalf("%s\n%d at %v, not at %v", src, e, at, m.wrong)
			}
			continue
		}
		fine++
		if e != api.OK || at != (api.Pos{}) || !same(l, want, true) {
			t.Fatalf("%s\n%d at %v: %s", src, e, at, tell(l))
		}
	}
	if fine < 1500 || wrong < 1500 {
		t.Errorf("%d and %d: too few", fine, wrong)
	}
}

// P1: whatever is handed in, there is an answer.
func TestAnyText(t *testing.T) {
	d := dice(1)
	pieces := []string{"(", "(", ")", ")", " ", "x", "_", "'a", "->", "Nil", "1", "1.5", "\"s\"", "()", "(x)", "#", "\"", "tuple", "ref", "\n", ";"}
	words := []string{"(fn ", "(let ", "(rec ", "(if ", "(seq ", "(tuple ", "(case ", "(try ", "(raise ", "(transact ", "(data ", "(root ", "(def ", "(do ", "(-> "}
	for range 40000 {
		var b strings.Builder
		for range d.below(14) {
			b.WriteString(pick(&d, append(pieces, words...)...))
			b.WriteString(pick(&d, " ", ""))
		}
		src := b.String()
		l, at, e := parse.Program(src)
		if e == api.OK && at != (api.Pos{}) || e != api.OK && (e != api.ErrSyntax || len(l) != 0 || at.Line < 1 || at.Col < 1) {
			t.Fatalf("%q: %v, %d at %v", src, l, e, at)
		}
	}
}

// Rule 4: no two lists of an answer share memory, spare room neither; and none is kept.
func TestNewMemory(t *testing.T) {
	const src = `
(data list ('a) (Nil) (Cons 'a (list 'a) (-> int int int 'a)))
(rec f (fn (x _ y) (case (f 1 2 3) ((Cons (tuple a b) c) (tuple a "s" 1.5)) (_ (Cons x y)))))
(root r (-> (-> int int int int) int int) (fn (x) x))`
	a, b := must(t, src), must(t, src)
	for _, n := range all(a) {
		spare := n.Kids[len(n.Kids):cap(n.Kids)]
		for i := range spare {
			spare[i].Op = -1
		}
		for _, other := range all(a) {
			if other.Op == -1 {
				t.Fatal("the spare room of one list is another one's")
			}
		}
	}
	if !same(a, b, true) {
		t.Error("the spare room of one list is another one's")
	}
	for _, n := range all(a) {
		for i := range n.Kids {
			n.Kids[i] = parse.Node{}
		}
	}
	if !same(b, must(t, src), true) {
		t.Error("two answers share memory")
	}
}

// all: nodes, and all parts of theirs.
func all(l []parse.Node) []parse.Node {
	var nodes []parse.Node
	for _, n := range l {
		nodes = append(nodes, n)
		nodes = append(nodes, all(n.Kids)...)
	}
	return nodes
}
