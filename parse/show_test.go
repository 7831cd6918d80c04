package parse_test

import (
	"strings"
	"testing"

	"scriptor/api"
	"scriptor/lex"
	"scriptor/num"
	"scriptor/parse"
)

// P11.1: each kind of node, as it is shown.
func TestShow(t *testing.T) {
	for _, src := range []string{
		"(data t () (A))", "(data list ('a) (Nil) (Cons 'a (list 'a)))", "(data t ('a 'b) (A 'a int (ref 'b)) (B))",
		"(root r int 1)", "(root r (pref (list (tuple int 'a))) Nil)", "(root r (-> int int) f)", "(root r (-> a (-> b (-> (-> c d) e))) f)",
		"(def x y)", "(rec f (fn (x) x))", "(do ())", "(do 12)", "(do -7)", "(do 1.5)", "(do -0.0)", "(do \"a b\")", "(do x)", "(do Nil)", "(do (Some 1))",
		"(do (fn (x _ y) z))", "(do (f x))", "(do ((f x) (g y) ()))", "(do (let x 1 2))", "(do (let _ 1 2))", "(do (rec f (fn (_) 1) f))", "(do (if a b c))",
		"(do (seq a))", "(do (seq a b c))", "(do (tuple a b))", "(do (case a (_ 1)))", "(do (case a (x 1) (-1 2) (\"s\" 3) (() 4) (Nil 5) ((C x _) 6) ((tuple x y) 7)))",
		"(do (try a (Div 1) ((Fail x) 2)))", "(do (raise Div))", "(do (transact (store x 1)))",
	} {
		if got := parse.Show(must(t, src)...); got != src+"\n" {
			t.Errorf("%q, not %q", got, src)
		}
	}
	for src, want := range map[string]string{
		"":                             "",
		";\n":                          "",
		"(do 1)(do 2)":                 "(do 1)\n(do 2)\n",
		"(do;c\n(f\t( )\n\n007 -0))":   "(do (f () 7 0))\n",
		"(root r (-> a b c d) f)":      "(root r (-> a (-> b (-> c d))) f)\n",
		"(root r (-> (-> a b c) d) f)": "(root r (-> (-> a (-> b c)) d) f)\n",
		"(def f(fn(x)(f\"a\"\"b\")))":  "(def f (fn (x) (f \"a\" \"b\")))\n",
	} {
		if got := parse.Show(must(t, src)...); got != want {
			t.Errorf("%q: %q, not %q", src, got, want)
		}
	}
	if parse.Show() != "" {
		t.Error("no nodes")
	}
	// Parts of what Program makes are shown as the trees that they are.
	n := must(t, "(do (case x ((C y) (f 1))))")[0].Kids[0]
	if got := parse.Show(n, n.Kids[1], n.Kids[1].Kids[0], n.Kids[1].Kids[1]); got != "(case x ((C y) (f 1)))\n((C y) (f 1))\n(C y)\n(f 1)\n" {
		t.Error(got)
	}
}

// P11.1: how strings are written: all bytes.
func TestShowStrings(t *testing.T) {
	for said, want := range map[string]string{
		"": `""`, "a b": `"a b"`, "\"": `"\""`, "\\": `"\\"`, "\n": `"\n"`, "\t": `"\x09"`, "\x00": `"\x00"`, "\x1f ~\x7f": `"\x1f ~\x7f"`, "\x80\xff": `"\x80\xff"`, "é;(": `"\xc3\xa9;("`,
	} {
		if got := parse.Show(parse.Node{Op: parse.Str, Text: said}, parse.Node{Op: parse.PStr, Text: said}); got != want+"\n"+want+"\n" {
			t.Errorf("%q: %s, not %s", said, got, want)
		}
	}
	for c := range 256 {
		n := parse.Node{Op: parse.Do, Kids: []parse.Node{{Op: parse.Str, Text: "a" + string([]byte{byte(c)}) + "0"}}}
		if l := must(t, parse.Show(n)); !same(l, []parse.Node{n}, false) {
			t.Errorf("byte %d: %s", c, tell(l))
		}
	}
	long := parse.Node{Op: parse.Do, Kids: []parse.Node{{Op: parse.Str, Text: strings.Repeat("\xff", api.MaxStr)}}}
	if l := must(t, parse.Show(long)); !same(l, []parse.Node{long}, false) {
		t.Error("the longest string")
	}
}

// P11.2: floats are read as the same, whatever float a text can say.
func TestShowFloats(t *testing.T) {
	texts := []string{
		"0.0", "-0.0", "0.1", "1.0", "-1.5", "12345678901234.5", "99999999999999.9", "10000000000000.0", "90000000000000.0", "0.00000000000001", "-0.00000000000009",
		"0.10000000000000", "123456.123456789", "4.35", "0.3", "2.67500000000000", "1.00000000000001", "00000000000000.1", "00000001.1000000",
	}
	m := newMaker(5, 0)
	for range 30000 {
		s, _ := m.float()
		texts = append(texts, s)
	}
	for _, s := range texts {
		a := must(t, "(do "+s+")")
		shown := parse.Show(a...)
		if b := must(t, shown); !same(a, b, false) || b[0].Kids[0].Op != parse.Float {
			t.Fatalf("%s: %s", s, shown)
		}
	}
}

// layout: a program's tokens with the blanks that Show has to write.
func layout(t *testing.T, src string) string {
	t.Helper()
	tokens, _, e := lex.Scan(src)
	if e != api.OK {
		t.Fatal(e)
	}
	lines := strings.Split(src, "\n")
	var b strings.Builder
	depth := 0
	for i, token := range tokens {
		if token.Kind == lex.Close {
			depth--
		} else if depth > 0 && tokens[i-1].Kind != lex.Open {
			b.WriteByte(' ')
		}
		rest := lines[token.At.Line-1][token.At.Col-1:]
		if i+1 < len(tokens) && tokens[i+1].At.Line == token.At.Line {
			rest = rest[:tokens[i+1].At.Col-token.At.Col]
		}
		b.WriteString(strings.TrimRight(rest, " "))
		if token.Kind == lex.Open {
			depth++
		}
		if depth == 0 {
			b.WriteByte('\n')
		}
	}
	return b.String()
}

// P11.2, P2: what is shown is read again, and shown the same; between two trees stands one blank, behind each node of
// the list a new line.
func TestShowMadeUp(t *testing.T) {
	shown := 0
	for seed := range 3000 {
		m := newMaker(100000+seed, 0)
		l := several(m.dice.below(4), m.definition)
		s := parse.Show(l...)
		if len(s) > api.MaxText {
			continue
		}
		shown++
		again := must(t, s)
		if !same(l, again, false) {
			t.Fatalf("%s\nisn't %s", s, tell(l))
		}
		if parse.Show(again...) != s || layout(t, s) != s {
			t.Fatalf("%s\nis laid out otherwise", s)
		}
	}
	if shown < 1500 {
		t.Error(shown)
	}
}

// P11.1, P11.2: arrows are nested, as long as they can be read so; a row of more is read again, too.
func TestShowArrows(t *testing.T) {
	nested := func(n int) string {
		return strings.Repeat("(-> t ", n-1) + "t" + strings.Repeat(")", n-1)
	}
	for _, around := range []struct {
		src string
		fit int // so many types in a row can stand nested there
	}{
		{"(root r $ 1)", api.MaxDepth},
		{"(data d () (A int $ 'a))", api.MaxDepth - 1},
		{"(root r (list (ref $)) 1)", api.MaxDepth - 2},
		{"(root r (-> $ t) 1)", api.MaxDepth - 1},
	} {
		for _, n := range []int{2, 3, around.fit - 1, around.fit, around.fit + 1, 250, 3000, 20000} {
			l := must(t, strings.ReplaceAll(around.src, "$", "(-> "+many(n, "t")+")"))
			s := parse.Show(l...)
			if n <= around.fit && s != strings.ReplaceAll(around.src, "$", nested(n))+"\n" {
				t.Errorf("%s of %d: %s", around.src, n, s)
			}
			if !same(must(t, s), l, false) {
				t.Errorf("%s of %d isn't read again", around.src, n)
			}
		}
	}
	// Rows within rows, each short, all of them too deep.
	inner := "t"
	for range 60 {
		inner = "(-> t t t (list " + inner + "))"
	}
	l := must(t, "(root r "+inner+" 1)")
	if !same(must(t, parse.Show(l...)), l, false) {
		t.Error("rows within rows")
	}
}

// P1: Show of any nodes ends; and it changes none.
func TestShowAnyNodes(t *testing.T) {
	d := dice(77)
	var anyNode func(depth int) parse.Node
	anyNode = func(depth int) parse.Node {
		n := parse.Node{Op: d.below(50), Num: d.below(1000), Text: pick(&d, "", "x", "->", "tuple", "\x00", "12345678", "\xff\xff\xff\xff\xff\xff\xff\xff", "\x7f\xf0\x00\x00\x00\x00\x00\x00", "\x7f\xef\xff\xff\xff\xff\xff\xff")}
		if depth > 0 {
			for range d.below(4) {
				n.Kids = append(n.Kids, anyNode(depth-1))
			}
		}
		return n
	}
	for range 20000 {
		n := anyNode(4)
		parse.Show(n)
	}
	for op := -1; op < 50; op++ {
		n := parse.Node{Op: op, Text: "->", Num: num.Most + 1}
		parse.Show(n)
		for i := range 1 << 15 {
			kids := []parse.Node{n}
			if i%2 == 0 {
				kids = []parse.Node{{Op: parse.TVar, Text: "'a"}, n}
			}
			n = parse.Node{Op: op, Text: "->", Kids: kids}
		}
		parse.Show(n)
	}
	l := must(t, "(root r (-> a b c) (fn (x) (f x 1 \"s\")))")
	parse.Show(l...)
	if !same(l, must(t, "(root r (-> a b c) (fn (x) (f x 1 \"s\")))"), true) {
		t.Error("what was shown has changed")
	}
}
