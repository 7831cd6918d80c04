package schema_test

import (
	"slices"
	"strconv"
	"strings"
	"testing"

	"scriptor/api"
	"scriptor/graph"
	"scriptor/infer"
	"scriptor/parse"
	"scriptor/schema"
)

const (
	list = "(data list ('a) (Nil) (Cons 'a (list 'a))) "

	listText = "|list 'a=Nil,Cons 'a (list 'a)"
)

// must: the nodes of a text that has to be a program; the last root's expression may be of any type.
func must(t *testing.T, src string) []parse.Node {
	t.Helper()
	l, at, e := parse.Program(src)
	if e != api.OK {
		t.Fatalf("%q: %d at %v", src, e, at)
	}
	if _, at, e := infer.Program(l...); e != api.OK && e != api.ErrBig {
		t.Fatalf("%.500s: %d at %v", src, e, at)
	}
	return l
}

// told: are these the types of a program's roots, of which each is a name of one letter?
func told(t *testing.T, src string, want ...string) {
	t.Helper()
	l, at, e := schema.Of(must(t, src)...)
	var got []string
	for _, r := range l {
		got = append(got, r.Name+": "+r.Type)
	}
	if e != api.OK || at != (api.Pos{}) || !slices.Equal(got, want) {
		t.Errorf("%.500s: %d at %v: %q, not %q", src, e, at, got, want)
	}
}

// marked: are the roots refused so at the place where a mark (a caret) stands in the text?
func marked(t *testing.T, want api.Errno, src string) {
	t.Helper()
	ahead, behind, ok := strings.Cut(src, "^")
	if !ok {
		t.Fatalf("%q has no mark", src)
	}
	place := api.Pos{Line: 1 + strings.Count(ahead, "\n"), Col: len(ahead) - strings.LastIndex(ahead, "\n")}
	if l, at, e := schema.Of(must(t, ahead+behind)...); e != want || at != place || l != nil {
		t.Errorf("%.500s: %d at %v, not %d at %v", src, e, at, want, place)
	}
}

// root: one of a type, with an expression of any type.
func root(name, typ string) string { return "(root " + name + " " + typ + " (raise Div)) " }

// P14.1: types as texts, with the Datas that stand in them.
func TestTexts(t *testing.T) {
	told(t, "")
	told(t, list+"(def x 1) (do x)")
	for typ, want := range map[string]string{
		"int": "int", "exn": "exn", "(pref bool)": "(pref bool)", "(tuple int (pref float) string unit)": "(tuple int (pref float) string unit)",
		"(list int)": "(list int)" + listText, "(list (list (pref (list int))))": "(list (list (pref (list int))))" + listText,
		"(pref\n( tuple (list int ;c\n) int) )": "(pref (tuple (list int) int))" + listText,
	} {
		told(t, list+root("r", typ), "r: "+want)
		told(t, "(do 1) "+root("a", "int")+list+"(def y 1) "+root("b", typ)+root("c", "unit"), "a: int", "b: "+want, "c: unit")
	}
	told(t, "(data list ('x) (Nil) (Cons 'x (list 'x))) (root r (list int) Nil)", "r: (list int)|list 'a=Nil,Cons 'a (list 'a)")
	told(t, "(data t () (A)) "+root("r", "t"), "r: t|t=A")
	told(t, "(data t () (A t) (B int string) (C)) "+root("r", "(tuple t t)"), "r: (tuple t t)|t=A t,B int string,C")
	told(t, "(data t ('z 'y 'b 'a 'a1 'f 'g 'x) (A 'x 'g 'f 'a1 'a 'b 'y 'z) (B (t int 'z 'z 'z 'z 'z 'z 'z))) "+root("r", "(t int int int int int int int int)"),
		"r: (t int int int int int int int int)|t 'a 'b 'c 'd 'e 'f 'g 'h=A 'h 'g 'f 'e 'd 'c 'b 'a,B (t int 'a 'a 'a 'a 'a 'a 'a)")
	// Variables that are in no constructor are told, too.
	told(t, "(data t ('v 'w) (A)) (data u () (U (t u int))) "+root("r", "u"), "r: u|u=U (t u int)|t 'a 'b=A")
	// Roots of one name, if there were two, are two; Datas that no root's type leads to aren't told.
	told(t, list+"(data u () (U)) (data v () (V u (list u))) "+root("r", "u")+root("s", "int")+root("t", "(list u)"), "r: u|u=U", "s: int", "t: (list u)"+listText+"|u=U")
}

// P14.1: Datas are told in the order in which they are met first: those in a type ahead of those in these.
func TestOrder(t *testing.T) {
	datas := `(data e () (E)) (data d () (D e)) (data c ('x) (C d 'x)) (data b () (B (c e))) (data a ('x) (A b 'x (a 'x)))
`
	a, b, c, d, e := "|a 'a=A b 'a (a 'a)", "|b=B (c e)", "|c 'a=C d 'a", "|d=D e", "|e=E"
	for typ, want := range map[string]string{
		"(a int)": a + b + c + e + d, "(a e)": a + e + b + c + d, "(tuple e (a d))": e + a + d + b + c, "(tuple (c (a e)) d)": c + a + e + d + b,
		"b": b + c + e + d, "(c int)": c + d + e, "(pref (tuple d (pref (c b))))": d + c + b + e, "(a (a (a int)))": a + b + c + e + d, "(tuple b d)": b + d + c + e,
	} {
		told(t, datas+root("r", typ), "r: "+typ+want)
	}
	told(t, datas+root("r", "(tuple d d)")+root("s", "d"), "r: (tuple d d)"+d+e, "s: d"+d+e)
}

// P14.1: what can't be kept stands nowhere, however far the way to it.
func TestKeep(t *testing.T) {
	datas := list + "(data p ('a) (P)) (data f () (F (-> int int))) (data g () (G f)) (data h ('x) (X int) (H (list (tuple 'x (pref g))))) (data c ('a) (C (ref 'a))) (data d () (D (p (ref d))))\n"
	for _, typ := range []string{
		"(-> int int)", "(ref int)", "(pref (ref int))", "(pref (-> int int))", "(list (tuple int (list (ref int))))", "(p (-> int int))", "(p (ref int))", "f", "g", "(h int)", "(c int)", "(pref (c int))", "d", "(tuple int int int d)",
		"(-> f g)", "(list (c (list int)))",
	} {
		marked(t, api.ErrKeep, datas+"(root r ^"+typ+" (raise Div))")
		marked(t, api.ErrKeep, datas+root("a", "int")+"\n(root r\n  ^"+typ+" (raise Div)) "+root("b", "(ref int)"))
	}
	told(t, datas+root("r", "(list (p int))")+"(def x (ref (F neg))) (do (D P))", "r: (list (p int))"+listText+"|p 'a=P")
}

// P14.1: a text has 1000 bytes at most.
func TestBig(t *testing.T) {
	for _, bytes := range []int{998, 999, 1000, 1001, 1002, 5000} {
		// The name of a constructor makes up what is left.
		src, text := "(data t () (A)", "t|t=A"
		for i := 0; len(text)+50 < bytes; i++ {
			con := "C" + strconv.Itoa(i) + strings.Repeat("c", 20)
			src, text = src+" ("+con+" int)", text+","+con+" int"
		}
		last := "L" + strings.Repeat("l", bytes-len(text)-2)
		src, text = src+" ("+last+")) ", text+","+last
		if len(text) != bytes {
			t.Fatalf("%d bytes", len(text))
		}
		if bytes <= 1000 {
			told(t, src+root("r", "t"), "r: "+text)
			marked(t, api.ErrBig, src+root("q", "t")+"(root r ^(pref (pref (pref t))) (raise Div))")
			continue
		}
		marked(t, api.ErrBig, src+"(root r ^t (raise Div))")
		marked(t, api.ErrBig, src+root("q", "int")+"(root r ^(tuple int t) (raise Div)) (root s (ref int) (raise Div))")
		// If it can't be kept either, that is told; the first root in any case.
		marked(t, api.ErrKeep, src+"(root r ^(tuple (ref int) t) (raise Div))")
		marked(t, api.ErrKeep, src+"(data z () (Z t) (Y (-> int int))) (root r ^(tuple t z) (raise Div))")
		marked(t, api.ErrKeep, src+"(root r ^(ref int) (raise Div)) (root s t (raise Div))")
	}
}

// P14.1: how many roots there may be.
func TestManyRoots(t *testing.T) {
	src := ""
	var want []string
	for i := range api.MaxRoots {
		name := "r" + strconv.Itoa(i)
		src += root(name, "int") + "(def x 1) "
		want = append(want, name+": int")
	}
	told(t, src, want...)
	for _, typ := range []string{"int", "(ref int)", "(tuple " + strings.Repeat("(tuple string string string string string string string string)", 8) + ")"} {
		marked(t, api.ErrBig, src+"(do 1) ^(root s "+typ+" (raise Div)) (root u (ref int) (raise Div))")
	}
	marked(t, api.ErrKeep, "(root a ^(ref int) (raise Div)) "+src)
	marked(t, api.ErrKeep, strings.Replace(src, "(root r99 int", "(root r99 ^(-> int int)", 1)+root("s", "int"))
	marked(t, api.ErrBig, root("a", "int")+strings.Replace(src, "(root r99", "^(root r99", 1))
}

// P14.1: roots of a program, and those of a store.
func TestFits(t *testing.T) {
	have := append(make([]graph.Root, 0, 3), graph.Root{Name: "a", Type: "int", Id: 1}, graph.Root{Name: "b", Type: "string", Id: 1})
	have[:3][2] = graph.Root{Name: "c", Type: "unit"}
	r := func(words ...string) []schema.Root {
		var l []schema.Root
		for i := 0; i < len(words); i += 2 {
			l = append(l, schema.Root{Name: words[i], Type: words[i+1]})
		}
		return l
	}
	for _, want := range [][]schema.Root{nil, {}, r("a", "int"), r("b", "string"), r("b", "string", "a", "int"), r("c", "int"), r("c", "string", "d", "int"), r("a", "int", "", "")} {
		if e := schema.Fits(have, want...); e != api.OK {
			t.Errorf("%v: %d", want, e)
		}
		if e := schema.Fits(nil, want...); e != api.OK {
			t.Errorf("%v: %d", want, e)
		}
	}
	for _, want := range [][]schema.Root{r("a", "string"), r("a", ""), r("a", "int "), r("b", "int"), r("b", "string", "a", "Int"), r("c", "int", "a", "int", "b", "strin"), r("a", "int|int=A")} {
		if e := schema.Fits(have, want...); e != api.ErrSchema {
			t.Errorf("%v: %d", want, e)
		}
	}
	// If there were two of one name, both would have to fit.
	two := []graph.Root{{Name: "a", Type: "int"}, {Name: "a", Type: "unit"}}
	for _, typ := range []string{"int", "unit"} {
		if e := schema.Fits(two, r("a", typ)...); e != api.ErrSchema {
			t.Errorf("%s: %d", typ, e)
		}
	}
	if e := schema.Fits([]graph.Root{{}}, schema.Root{Type: "t"}); e != api.ErrSchema {
		t.Errorf("%d", e)
	}
}

// P14.2: how variables are named in a Data is nothing; everything else of it isn't.
func TestSame(t *testing.T) {
	text := func(src string) string {
		t.Helper()
		l, at, e := schema.Of(must(t, src)...)
		if e != api.OK || len(l) != 1 {
			t.Fatalf("%s: %d at %v", src, e, at)
		}
		return l[0].Type
	}
	const want = "(data u ('a 'b) (A 'a) (B 'b int)) (root r (u int (pref string)) (A 1))"
	for _, src := range []string{
		"(data u ('b 'a) (A 'b) (B 'a int)) (root r (u int (pref string)) (A 2))", "(data u ('x 'a) (A 'x) (B 'a int)) (def a 1) (root r (u int (pref string)) (raise Div))",
		"(data v () (V)) (data u ('a 'b)\n (A 'a) (B 'b int))(root r(u int(pref string))(B (raise Div) 1)) (do 1)",
	} {
		if text(src) != text(want) {
			t.Errorf("%s isn't as %s", text(src), text(want))
		}
	}
	for _, src := range []string{
		"(data u ('a 'b) (A 'b) (B 'a int)) (root r (u int (pref string)) (raise Div))", "(data u ('a 'b) (B 'b int) (A 'a)) (root r (u int (pref string)) (raise Div))",
		"(data u ('a 'b) (A 'a) (B 'b int) (C)) (root r (u int (pref string)) (raise Div))", "(data u ('a 'b) (A 'a)) (root r (u int (pref string)) (raise Div))",
		"(data u ('a 'b) (A 'a) (B 'b string)) (root r (u int (pref string)) (raise Div))", "(data u ('a 'b) (A 'a) (B int 'b)) (root r (u int (pref string)) (raise Div))",
		"(data u ('a 'b) (A 'a) (C 'b int)) (root r (u int (pref string)) (raise Div))", "(data v ('a 'b) (A 'a) (B 'b int)) (root r (v int (pref string)) (raise Div))",
		"(data u ('a 'b) (A 'a) (B 'b int)) (root r (u (pref string) int) (raise Div))", "(data u ('a 'b) (A 'a) (B 'b int)) (root r (pref (u int (pref string))) (raise Div))",
		"(data u ('a 'b 'c) (A 'a) (B 'b int)) (root r (u int (pref string) int) (raise Div))", "(data u ('a 'b) (A 'a) (B 'b int int)) (root r (u int (pref string)) (raise Div))",
		"(data u ('a 'b) (A 'a 'b int) (B)) (root r (u int (pref string)) (raise Div))", "(data u ('a 'b) (A (pref 'a)) (B 'b int)) (root r (u int (pref string)) (raise Div))",
	} {
		if text(src) == text(want) {
			t.Errorf("%s is as %s", src, want)
		}
	}
}

// dice is a row of numbers that look like chance, and are always the same.
type dice uint64

func (d *dice) below(n int) int {
	*d += 0x9E3779B97F4A7C15
	x := uint64(*d)
	x = (x ^ x>>30) * 0xBF58476D1CE4E5B9
	x = (x ^ x>>27) * 0x94D049BB133111EB
	return int((x ^ x>>31) % uint64(n))
}

func pick[T any](d *dice, l ...T) T { return l[d.below(len(l))] }

// typ: a type of these Datas, which have as many variables as their places.
func (d *dice) typ(depth, datas, vars int) string {
	if depth == 0 || d.below(4) == 0 {
		if vars > 0 && d.below(2) == 0 {
			return "'v" + strconv.Itoa(d.below(vars))
		}
		return pick(d, "int", "bool", "exn", "string", "t0")
	}
	i := d.below(datas)
	words := "t" + strconv.Itoa(i)
	if d.below(3) == 0 {
		words, i = pick(d, "tuple", "tuple", "pref", "pref", "pref", "ref", "->"), 2
	}
	if words == "pref" || words == "ref" {
		i = 1
	}
	for range i {
		words += " " + d.typ(depth-1, datas, vars)
	}
	if i == 0 {
		return words
	}
	return "(" + words + ")"
}

// plainly: a type's text by words alone: those of each Data that is met are put behind, its variables named anew.
func plainly(typ string, datas []string) string {
	words := func(s string) []string {
		return strings.Fields(strings.NewReplacer("(", " ", ")", " ", ",", " ", "=", " ", "|", " ").Replace(s))
	}
	text := typ
	for i, met := 0, []string{}; i < len(words(text)); i++ {
		word := words(text)[i]
		n, err := strconv.Atoi(strings.TrimPrefix(word, "t"))
		if word[0] != 't' || err != nil || slices.Contains(met, word) {
			continue
		}
		met = append(met, word)
		text += "|" + datas[n]
	}
	return text
}

// P14.1: programs of all kinds have the roots that another way of telling them says.
func TestMadeUp(t *testing.T) {
	d := dice(15)
	right := 0
	for range 5000 {
		src := "(data t0 () (T0)) "
		datas := []string{"t0=T0"}
		for i := 1; i < 5; i++ {
			name := "t" + strconv.Itoa(i)
			vars, text := "", name
			for v := range i {
				vars += " 'v" + strconv.Itoa(v)
				text += " '" + string(rune('a'+v))
			}
			src += "(data " + name + " (" + vars + ")"
			text += "="
			for c := range 1 + d.below(2) {
				con := "C" + strconv.Itoa(i*10+c)
				for range d.below(3) {
					con += " " + d.typ(2, i+1, i)
				}
				src += " (" + con + ")"
				if c > 0 {
					text += ","
				}
				text += strings.NewReplacer("'v0", "'a", "'v1", "'b", "'v2", "'c", "'v3", "'d").Replace(con)
			}
			src += ") "
			datas = append(datas, text)
		}
		typ := d.typ(2, 5, 0)
		want := plainly(typ, datas)
		if strings.Contains(want, "->") || strings.Contains(want, "(ref ") {
			marked(t, api.ErrKeep, src+"(root r ^"+typ+" (raise Div))")
		} else if len(want) > 1000 {
			marked(t, api.ErrBig, src+"(root r ^"+typ+" (raise Div))")
		} else {
			told(t, src+root("r", typ), "r: "+want)
			right++
		}
	}
	if right < 500 || right > 4500 {
		t.Errorf("%d are right", right)
	}
}

// P1: nodes that Program of layer 11 never makes are answered, too; what is handed in stays as it is.
func TestAnyNodes(t *testing.T) {
	deep := parse.Node{Op: parse.TName, Text: "int"}
	for range 70000 {
		deep = parse.Node{Op: parse.TName, Text: "pref", Kids: []parse.Node{deep}}
	}
	endless := make([]parse.Node, 2)
	endless[1] = parse.Node{Op: parse.TName, Kids: endless}
	for _, kids := range [][]parse.Node{{deep, deep}, endless} {
		if l, at, e := schema.Of(parse.Node{Op: parse.Root, Text: "r", Kids: kids}); e != api.ErrBig || at != (api.Pos{}) || l != nil {
			t.Errorf("%v, %v, %d", l, at, e)
		}
	}
	if l, _, e := schema.Of(parse.Node{Op: parse.Root, Text: "r"}); e != api.OK || !slices.Equal(l, []schema.Root{{Name: "r"}}) {
		t.Errorf("%v, %d", l, e)
	}
	d := dice(16)
	var node func(depth int) parse.Node
	node = func(depth int) parse.Node {
		n := parse.Node{Op: pick(&d, parse.Data, parse.Root, parse.TName, parse.TVar, parse.DCon, 0, -1), Text: pick(&d, "", "x", "t", "int", "->", "'a")}
		if depth > 0 {
			for range d.below(4) {
				n.Kids = append(n.Kids, node(depth-1))
			}
		}
		return n
	}
	for range 20000 {
		l := append(make([]parse.Node, 0, 3), node(3), node(4))
		was := parse.Show(l[:3]...)
		if roots, _, e := schema.Of(l...); e != api.OK && roots != nil || e != api.OK && e != api.ErrKeep && e != api.ErrBig {
			t.Fatalf("%v: %v, %d", l, roots, e)
		}
		if parse.Show(l[:3]...) != was {
			t.Fatal("changed")
		}
	}
}
