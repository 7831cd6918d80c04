package infer

import (
	"slices"

	"scriptor/api"
	"scriptor/kind"
	"scriptor/parse"
)

// checker knows what the nodes ahead are.
type checker struct {
	solver *kind.Solver
	datas  map[string]int // how many variables a type's name has
	cons   map[string]con
	roots  map[string]struct{}
	names  *name   // all that is bound
	types  []typed // of each node but Datas
}

// con is a constructor: the name of its type, of which the variables are the numbers from 1 to vars, and its
// arguments' types.
type con struct {
	data string
	vars int
	args []kind.Type
}

// typed is a name and its type.
type typed struct {
	name string
	kind.Type
}

// newChecker: one that knows what there is ahead of every program.
func newChecker() *checker {
	c := &checker{solver: kind.New(), datas: map[string]int{}, cons: map[string]con{}, roots: map[string]struct{}{}}
	for _, text := range []string{"int", "float", "string", "unit"} {
		c.datas[text] = 0
	}
	for _, n := range given() {
		c.data(n)
	}
	// The variable of all these types is nobody else's.
	some := c.solver.Fresh()
	for _, p := range Prims() {
		t := kind.Swap(p.Type, []int{1}, []kind.Type{some})
		c.names = &name{text: p.Name, Type: t, all: []int{some.Num}, up: c.names}
	}
	return c
}

// made: what a name makes of types.
func made(name string, kids ...kind.Type) kind.Type {
	return kind.Type{Op: 1, Text: name, Kids: kids}
}

func arrow(from, to kind.Type) kind.Type { return made("->", from, to) }

// misfit is what is thrown for a node that doesn't fit.
func misfit(n parse.Node) wrong { return wrong{n.At, api.ErrType} }

func need(ok bool, n parse.Node) {
	if !ok {
		panic(misfit(n))
	}
}

// part: one of a node's parts; a node that lacks it doesn't fit.
func part(n parse.Node, i int) parse.Node {
	need(i < len(n.Kids), n)
	return n.Kids[i]
}

// fit makes the type that is wanted and the one of what stands at that place one.
func (c *checker) fit(want, has kind.Type, at api.Pos) {
	if e := c.solver.Unify(want, has); e != api.OK {
		panic(wrong{at, e})
	}
}

// full: a type in full; too big, it is told by that place.
func (c *checker) full(t kind.Type, at api.Pos) kind.Type {
	full, e := c.solver.Full(t)
	if e != api.OK {
		panic(wrong{at, e})
	}
	return full
}

// definition: a node of the program itself.
func (c *checker) definition(n parse.Node) {
	switch n.Op {
	case parse.Data:
		c.data(n)
	case parse.Root:
		c.root(n)
	case parse.Def:
		t := c.expression(part(n, 0), c.names)
		c.names = c.bind(n.Text, n.Kids[0], t, c.names)
		c.note(n.Text, t)
	case parse.DefRec:
		c.names = c.rec(n, c.names)
		c.note(n.Text, c.names.Type)
	case parse.Do:
		c.note("", c.expression(part(n, 0), c.names))
	default:
		panic(misfit(n))
	}
}

// note: of a node of that name this is the type.
func (c *checker) note(name string, t kind.Type) {
	c.types = append(c.types, typed{name, t})
}

func (c *checker) root(n parse.Node) {
	_, there := c.roots[n.Text]
	need(!there, n)
	c.roots[n.Text] = struct{}{}
	t := c.typeOf(part(n, 0), nil)
	c.fit(t, c.expression(part(n, 1), c.names), n.At)
	// It has no variables: so it is bound for all types.
	c.names = &name{text: n.Text, Type: made("pref", t), up: c.names}
	c.note(n.Text, c.names.Type)
}

// parts: the texts of a Data's variables, and its constructors.
func parts(n parse.Node) (vars []string, cons []parse.Node) {
	for _, kid := range n.Kids {
		if kid.Op == parse.TVar {
			vars = append(vars, kid.Text)
		} else {
			cons = append(cons, kid)
		}
	}
	return vars, cons
}

func (c *checker) data(n parse.Node) {
	_, there := c.datas[n.Text]
	need(!there, n)
	vars, cons := parts(n)
	for i, text := range vars {
		need(!slices.Contains(vars[:i], text), n)
	}
	c.datas[n.Text] = len(vars)
	for _, dcon := range cons {
		_, there := c.cons[dcon.Text]
		need(!there, dcon)
		one := con{data: n.Text, vars: len(vars)}
		for _, kid := range dcon.Kids {
			one.args = append(one.args, c.typeOf(kid, vars))
		}
		c.cons[dcon.Text] = one
	}
}

// typeOf: what a type's node says; of the variables that may be in it the first is 1, and so on.
func (c *checker) typeOf(n parse.Node, vars []string) kind.Type {
	if n.Op == parse.TVar {
		i := slices.Index(vars, n.Text)
		need(i >= 0, n)
		return kind.Var(i + 1)
	}
	need(n.Op == parse.TName && c.isMade(n), n)
	var kids []kind.Type
	for _, kid := range n.Kids {
		kids = append(kids, c.typeOf(kid, vars))
	}
	return made(n.Text, kids...)
}

// isMade: is that name one that makes a type of so many?
func (c *checker) isMade(n parse.Node) bool {
	switch n.Text {
	case "->":
		return len(n.Kids) == 2
	case "tuple", "ref", "pref":
		return true
	}
	vars, ok := c.datas[n.Text]
	return ok && vars == len(n.Kids)
}
