package infer_test

import (
	"maps"
	"slices"
	"strings"
	"testing"

	"scriptor/api"
	"scriptor/infer"
	"scriptor/kind"
	"scriptor/parse"
)

// plain finds types as a textbook says it: what is known of variables is put in their places everywhere at once, and
// a scheme's variables are those that no name that can be seen has free. It knows programs that begin with lists.
type plain struct {
	known map[int]kind.Type
	last  int
}

// scheme is a type, and the variables in it that are bound.
type scheme struct {
	kind.Type
	all []int
}

func (p *plain) fresh() kind.Type {
	p.last++
	return kind.Var(p.last)
}

func (p *plain) full(t kind.Type) kind.Type {
	if by, ok := p.known[t.Num]; ok && t.Op == 0 {
		return by
	}
	t.Kids = slices.Clone(t.Kids)
	for i := range t.Kids {
		t.Kids[i] = p.full(t.Kids[i])
	}
	return t
}

// unify throws the place, if two types can't be one.
func (p *plain) unify(a, b kind.Type, at api.Pos) {
	a, b = p.full(a), p.full(b)
	switch {
	case a.Op == 0 && b.Op == 0 && a.Num == b.Num:
	case a.Op == 0:
		if slices.Contains(kind.Vars(b), a.Num) {
			panic(at)
		}
		for n, t := range p.known {
			p.known[n] = kind.Swap(t, []int{a.Num}, []kind.Type{b})
		}
		p.known[a.Num] = b
	case b.Op == 0:
		p.unify(b, a, at)
	case a.Text != b.Text || len(a.Kids) != len(b.Kids):
		panic(at)
	default:
		for i := range a.Kids {
			p.unify(a.Kids[i], b.Kids[i], at)
		}
	}
}

func (p *plain) anew(s scheme) kind.Type {
	var by []kind.Type
	for range s.all {
		by = append(by, p.fresh())
	}
	return kind.Swap(p.full(s.Type), s.all, by)
}

// schemeOf: an expression's, where these names are bound.
func (p *plain) schemeOf(n parse.Node, t kind.Type, env map[string]scheme) scheme {
	s := scheme{Type: p.full(t)}
	if !value(n) {
		return s
	}
	free := map[int]bool{}
	for _, e := range env {
		for _, v := range kind.Vars(p.full(e.Type)) {
			free[v] = free[v] || !slices.Contains(e.all, v)
		}
	}
	for _, v := range kind.Vars(s.Type) {
		if !free[v] {
			s.all = append(s.all, v)
		}
	}
	return s
}

func value(n parse.Node) bool {
	ok := slices.Contains([]int{parse.Int, parse.Float, parse.Str, parse.Unit, parse.Var, parse.Fn}, n.Op)
	if n.Op == parse.Con || n.Op == parse.Tup {
		ok = true
		for _, kid := range n.Kids {
			ok = ok && value(kid)
		}
	}
	return ok
}

// constructors: of lists, and those that there are always: their arguments, and what they make.
func constructors() map[string][]kind.Type {
	a, b := kind.Var(1), kind.Var(2)
	list, o, two, exn, boolean := kind.Con("list", a), kind.Con("o", a), kind.Con("two", a, b), kind.Con("exn"), kind.Con("bool")
	return map[string][]kind.Type{"Nil": {list}, "Cons": {a, list, list}, "None": {o}, "Some": {a, o}, "Two": {a, b, two}, "Swapped": {b, a, two},
		"True": {boolean}, "False": {boolean}, "Div": {exn}, "Match": {exn}, "Fail": {kind.Con("string"), exn}}
}

func (p *plain) construct(n parse.Node, kid func(parse.Node) kind.Type) kind.Type {
	types := constructors()[n.Text]
	if len(types) != len(n.Kids)+1 {
		panic(n.At)
	}
	by := []kind.Type{p.fresh(), p.fresh()}
	for i, t := range types {
		t = kind.Swap(t, []int{1, 2}, by)
		if i == len(n.Kids) {
			return t
		}
		p.unify(t, kid(n.Kids[i]), n.Kids[i].At)
	}
	return kind.Type{}
}

func with(env map[string]scheme, name string, s scheme) map[string]scheme {
	env = maps.Clone(env)
	env[name] = s
	return env
}

func (p *plain) expression(n parse.Node, env map[string]scheme) kind.Type {
	last := len(n.Kids) - 1
	is := func(i int) kind.Type { return p.expression(n.Kids[i], env) }
	switch n.Op {
	case parse.Int, parse.Float, parse.Str, parse.Unit:
		return kind.Con(map[int]string{parse.Int: "int", parse.Float: "float", parse.Str: "string", parse.Unit: "unit"}[n.Op])
	case parse.Var:
		s, ok := env[n.Text]
		if !ok {
			panic(n.At)
		}
		return p.anew(s)
	case parse.Con:
		return p.construct(n, func(kid parse.Node) kind.Type { return p.expression(kid, env) })
	case parse.Fn:
		var params []kind.Type
		for _, x := range n.Kids[:last] {
			params = append(params, p.fresh())
			if x.Op == parse.PVar {
				env = with(env, x.Text, scheme{Type: params[len(params)-1]})
			}
		}
		t := is(last)
		for _, x := range slices.Backward(params) {
			t = kind.Con("->", x, t)
		}
		return t
	case parse.App:
		f := is(0)
		for i := 1; i <= last; i++ {
			a, r := is(i), p.fresh()
			p.unify(f, kind.Con("->", a, r), n.Kids[i].At)
			f = r
		}
		return f
	case parse.Let:
		if t := is(0); n.Text != "_" {
			env = with(env, n.Text, p.schemeOf(n.Kids[0], t, env))
		}
		return is(1)
	case parse.Rec:
		env = with(env, n.Text, p.rec(n, env))
		return is(1)
	case parse.If:
		p.unify(kind.Con("bool"), is(0), n.Kids[0].At)
		t := is(1)
		p.unify(t, is(2), n.Kids[2].At)
		return t
	case parse.Seq, parse.Tup:
		t := kind.Con("tuple")
		for i := range n.Kids {
			t.Kids = append(t.Kids, is(i))
		}
		if n.Op == parse.Seq {
			return t.Kids[last]
		}
		return t
	case parse.Case, parse.Try:
		return p.arms(n, env)
	case parse.Raise:
		p.unify(kind.Con("exn"), is(0), n.Kids[0].At)
		return p.fresh()
	}
	return is(0)
}

func (p *plain) rec(n parse.Node, env map[string]scheme) scheme {
	v := p.fresh()
	t := p.expression(n.Kids[0], with(env, n.Text, scheme{Type: v}))
	p.unify(v, t, n.At)
	return p.schemeOf(n.Kids[0], t, env)
}

func (p *plain) arms(n parse.Node, env map[string]scheme) kind.Type {
	t := p.expression(n.Kids[0], env)
	of := kind.Con("exn")
	if n.Op == parse.Case {
		of, t = t, kind.Type{}
	}
	for _, arm := range n.Kids[1:] {
		inner := maps.Clone(env)
		p.unify(of, p.pattern(arm.Kids[0], inner), arm.Kids[0].At)
		x := p.expression(arm.Kids[1], inner)
		if t.Op == 0 && t.Num == 0 {
			t = x
		}
		p.unify(t, x, arm.Kids[1].At)
	}
	return t
}

func (p *plain) pattern(n parse.Node, env map[string]scheme) kind.Type {
	switch n.Op {
	case parse.PInt, parse.PStr, parse.PUnit:
		return kind.Con(map[int]string{parse.PInt: "int", parse.PStr: "string", parse.PUnit: "unit"}[n.Op])
	case parse.PCon:
		return p.construct(n, func(kid parse.Node) kind.Type { return p.pattern(kid, env) })
	case parse.PTup:
		t := kind.Con("tuple")
		for _, kid := range n.Kids {
			t.Kids = append(t.Kids, p.pattern(kid, env))
		}
		return t
	}
	v := p.fresh()
	if n.Op == parse.PVar {
		env[n.Text] = scheme{Type: v}
	}
	return v
}

// plainly: the types of a program's nodes, as text; or where it is wrong.
func plainly(l []parse.Node) (types []string, at api.Pos) {
	defer func() {
		if thrown := recover(); thrown != nil {
			types, at = nil, thrown.(api.Pos)
		}
	}()
	p := &plain{known: map[int]kind.Type{}, last: 1000}
	env := map[string]scheme{}
	for _, prim := range infer.Prims() {
		env[prim.Name] = scheme{prim.Type, []int{1}}
	}
	var found []kind.Type
	for _, n := range l {
		var t kind.Type
		switch n.Op {
		case parse.Data:
			continue
		case parse.Def:
			t = p.expression(n.Kids[0], env)
			env = with(env, n.Text, p.schemeOf(n.Kids[0], t, env))
		case parse.DefRec:
			s := p.rec(n, env)
			t, env = s.Type, with(env, n.Text, s)
		case parse.Do:
			t = p.expression(n.Kids[0], env)
		}
		found = append(found, t)
	}
	for _, t := range found {
		types = append(types, kind.Show(p.full(t)))
	}
	return types, api.Pos{}
}

// maker makes programs up.
type maker struct{ dice }

func (m *maker) name() string { return pick(&m.dice, "x", "y", "f", "x", "y", "z") }

func (m *maker) many(n int, one func() string) string {
	var l []string
	for range n {
		l = append(l, one())
	}
	return strings.Join(l, " ")
}

func (m *maker) fn(depth int) string {
	param := func() string { return pick(&m.dice, m.name(), m.name(), m.name(), "_") }
	return "(fn (" + m.many(pick(&m.dice, 1, 1, 2), param) + ") " + m.expression(depth-1) + ")"
}

func (m *maker) expression(depth int) string {
	if depth <= 0 {
		return pick(&m.dice, m.name(), m.name(), m.name(), m.name(), m.name(), m.name(), "1", `""`, "()", "2.5", "True", "Nil", "None", "Div", "+", "ref", "get", "set", "new", "load", "itoa", "<", "(fn (x) x)")
	}
	e := func() string { return m.expression(depth - 1) }
	switch m.dice.below(16) {
	case 0, 1, 2:
		return m.expression(0)
	case 3:
		return pick(&m.dice, "(Some "+e()+")", "(Cons "+e()+" Nil)", "(Two "+e()+" "+e()+")", "(Cons "+e()+" "+e()+")", "(Fail "+e()+")", "(Swapped "+e()+" None)")
	case 4, 5:
		return m.fn(depth)
	case 6, 7, 8:
		return "(" + pick(&m.dice, m.name(), m.name(), m.name(), "ref", "get", "set", e()) + " " + m.many(pick(&m.dice, 1, 1, 2), e) + ")"
	case 9, 10:
		return "(let " + pick(&m.dice, m.name(), m.name(), m.name(), "_") + " " + e() + " " + e() + ")"
	case 11:
		return "(rec " + m.name() + " " + m.fn(depth) + " " + e() + ")"
	case 12:
		return "(tuple " + m.many(2, e) + ")"
	case 13:
		return pick(&m.dice, "(if True "+e()+" "+e()+")", "(seq "+e()+" "+e()+")", "(raise Div)", "(raise "+e()+")", "(transact "+e()+")", "(if "+e()+" 1 "+e()+")")
	}
	arm := func() string { return "(" + m.pattern(2) + " " + e() + ")" }
	return "(" + pick(&m.dice, "case", "case", "try") + " " + e() + " " + m.many(pick(&m.dice, 1, 1, 2), arm) + ")"
}

// pattern: one in which no variable stands twice.
func (m *maker) pattern(depth int) string {
	one := func(names ...string) string {
		return pick(&m.dice, append(names, "_", "1", "Nil", "None", `""`, "()", "True")...)
	}
	if depth == 0 || m.dice.below(2) == 0 {
		return one("x", "y", "f", "x", "y", "f", "x", "y", "f")
	}
	return pick(&m.dice, "(Some "+one("x", "y")+")", "(tuple "+one("x", "x")+" "+one("y", "y")+")", "(Cons "+one("f", "x")+" "+one("y", "y")+")", "(Two x (Some y))", "(Fail "+one("x")+")")
}

func (m *maker) program() string {
	src := lists
	for range 1 + m.dice.below(4) {
		depth := 1 + m.dice.below(5)
		switch m.dice.below(5) {
		case 0, 1:
			src += "(def " + m.name() + " " + m.expression(depth) + ")\n"
		case 2:
			src += "(rec " + m.name() + " " + m.fn(depth) + ")\n"
		default:
			src += "(do " + m.expression(depth) + ")\n"
		}
	}
	return src
}

// P13.1, P4: programs of all kinds have the types that another way of finding them tells, and are refused where it
// does.
func TestMadeUp(t *testing.T) {
	m := &maker{14}
	right, names := 0, 0
	for range 10000 {
		src := m.program()
		l := must(t, src)
		want, place := plainly(l)
		b, at, e := infer.Program(l...)
		if (e == api.OK) != (place == api.Pos{}) || at != place || e != api.OK && e != api.ErrType {
			t.Fatalf("%s: %d at %v, not at %v", src, e, at, place)
		}
		var got []string
		for i, x := range b {
			got = append(got, x.Type)
			node := l[i+3]
			if x.Name != node.Text {
				t.Fatalf("%s: %s", src, x.Name)
			}
			names += strings.Count(x.Type, "'")
		}
		if !slices.Equal(got, want) {
			t.Fatalf("%s:\n%s\nnot\n%s", src, strings.Join(got, "\n"), strings.Join(want, "\n"))
		}
		if e == api.OK {
			right++
		}
	}
	if right < 1000 || names < 2000 {
		t.Errorf("%d programs are right, with %d variables", right, names)
	}
}
