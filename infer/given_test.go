package infer_test

import (
	"slices"
	"strings"
	"testing"

	"scriptor/infer"
	"scriptor/kind"
	"scriptor/parse"
)

// prims is the document's table: names, and their type.
const prims = `
+ - *: (-> int (-> int int))
div mod: (-> int (-> int int))
neg: (-> int int)
< <= =: (-> int (-> int bool))
f+ f- f* f/: (-> float (-> float float))
fsqrt fneg: (-> float float)
f< f= fahead: (-> float (-> float bool))
itof: (-> int float)
ftoi: (-> float int)
fbits: (-> float string)
nan inf: float
cat: (-> string (-> string string))
len ord atoi: (-> string int)
sub: (-> string (-> int (-> int string)))
s= s<: (-> string (-> string bool))
itoa chr: (-> int string)
print: (-> string unit)
read: (-> unit string)
ref: (-> 'a (ref 'a))
get: (-> (ref 'a) 'a)
set: (-> (ref 'a) (-> 'a unit))
new: (-> 'a (pref 'a))
load: (-> (pref 'a) 'a)
store: (-> (pref 'a) (-> 'a unit))
`

// args: how many arguments a prim takes.
func args(name string) int {
	switch {
	case slices.Contains(strings.Fields("nan inf"), name):
		return 0
	case name == "sub":
		return 3
	case slices.Contains(strings.Fields("+ - * div mod < <= = f+ f- f* f/ f< f= fahead cat s= s< set store"), name):
		return 2
	}
	return 1
}

// P13.1: what is bound ahead of every program, in its order.
func TestPrims(t *testing.T) {
	l := infer.Prims()
	if len(l) != 40 {
		t.Fatalf("%d", len(l))
	}
	for _, line := range strings.Split(strings.TrimSpace(prims), "\n") {
		names, want, _ := strings.Cut(line, ": ")
		for _, name := range strings.Fields(names) {
			p := l[0]
			l = l[1:]
			if p.Name != name || kind.Show(p.Type) != want || p.Args != args(name) {
				t.Errorf("%s, %d, %s; not %s, %d, %s", p.Name, p.Args, kind.Show(p.Type), name, args(name), want)
			}
			if vars := kind.Vars(p.Type); len(vars) > 1 || len(vars) == 1 && vars[0] != 1 {
				t.Errorf("%s: %v", name, vars)
			}
			// It is bound to that, for all types, and to nothing else.
			typed(t, "(do "+name+")", want)
			typed(t, "(def + 1) (def nan +) (def x "+name+") (do x)", "+: int", "nan: int", "x: "+meant(name, want), meant(name, want))
		}
	}
	typed(t, "(do (tuple (ref 1) (ref nan) (get (ref \"\")) (load (new ()))))", "(tuple (ref int) (ref float) string unit)")
	typed(t, "(do (fn (x y) (tuple (set x 1) (store y 2.5))))", "(-> (ref int) (-> (pref float) (tuple unit unit)))")
}

// meant: what a name is behind two others of the table were bound anew.
func meant(name, otherwise string) string {
	if name == "+" || name == "nan" {
		return "int"
	}
	return otherwise
}

// P13.1: answers are new memory.
func TestNewMemory(t *testing.T) {
	var spoil func(l []kind.Type)
	spoil = func(l []kind.Type) {
		for i := range l {
			spoil(l[i].Kids)
			l[i] = kind.Con("spoilt")
		}
	}
	l := infer.Prims()
	for i := range l {
		was := make([]string, len(l))
		for j := range l {
			was[j] = kind.Show(l[j].Type)
		}
		// Spoilt from within: so a list that is another's too is seen.
		for k := range l[i].Type.Kids {
			spoil(l[i].Type.Kids[k].Kids)
			spoil(l[i].Type.Kids[k : k+1])
		}
		for j := range l {
			if j != i && kind.Show(l[j].Type) != was[j] {
				t.Errorf("%s and %s share", l[i].Name, l[j].Name)
			}
		}
	}
	clear(l)
	if l := infer.Prims(); len(l) != 40 || l[0].Name != "+" || kind.Show(l[39].Type) != "(-> (pref 'a) (-> 'a unit))" {
		t.Errorf("%v", l)
	}
	cons := infer.Cons()
	clear(cons)
	if l := infer.Cons(); l[0].Name != "False" {
		t.Errorf("%v", l)
	}
}

// P13.1: constructors, of what is there ahead and of the program's own Datas.
func TestCons(t *testing.T) {
	given := []infer.Con{{"False", "bool", 0, 0}, {"True", "bool", 1, 0}, {"Div", "exn", 0, 0}, {"Match", "exn", 1, 0}, {"Abort", "exn", 2, 0},
		{"Keep", "exn", 3, 0}, {"Out", "exn", 4, 0}, {"Fail", "exn", 5, 1}}
	check := func(src string, more ...infer.Con) {
		t.Helper()
		l := must(t, src)
		room := append(slices.Clip(l), parse.Node{Op: parse.Def, Text: "spare"})[:len(l)]
		if got := infer.Cons(room...); !slices.Equal(got, append(slices.Clip(given), more...)) {
			t.Errorf("%s: %v", src, got)
		}
		if room[:len(l)+1][len(l)].Text != "spare" {
			t.Error("spare room")
		}
	}
	check("")
	check("(do (fn (x) x)) (def f Foo)")
	check(lists, infer.Con{"Nil", "list", 0, 0}, infer.Con{"Cons", "list", 1, 2}, infer.Con{"None", "o", 0, 0}, infer.Con{"Some", "o", 1, 1}, infer.Con{"Two", "two", 0, 2}, infer.Con{"Swapped", "two", 1, 2})
	check("(do 1) (data t () (C int float string unit bool exn t t)) (root r int 1) (data u ('a 'b 'c 'd 'e 'f 'g 'h) (A) (B 'c))",
		infer.Con{"C", "t", 0, 8}, infer.Con{"A", "u", 0, 0}, infer.Con{"B", "u", 1, 1})
	many := "(data t ()"
	var want []infer.Con
	for i := range 300 {
		name := "C" + strings.Repeat("c", i%37) + string(rune('a'+i/37))
		many += " (" + name + ")"
		want = append(want, infer.Con{name, "t", i, 0})
	}
	check(many+")", want...)
	if l := infer.Cons(); !slices.Equal(l, given) {
		t.Errorf("%v", l)
	}
}
