package infer

import (
	"scriptor/kind"
	"scriptor/parse"
)

// expression: its type, where these names are bound.
func (c *checker) expression(n parse.Node, names *name) kind.Type {
	t := c.meant(n, names)
	c.full(t, n.At)
	return t
}

// meant: the type that an expression's line of the document's table says.
func (c *checker) meant(n parse.Node, names *name) kind.Type {
	switch n.Op {
	case parse.Int:
		return made("int")
	case parse.Float:
		return made("float")
	case parse.Str:
		return made("string")
	case parse.Unit:
		return made("unit")
	case parse.Var:
		return c.instance(n, names)
	case parse.Con:
		return c.constructed(n, func(kid parse.Node) kind.Type { return c.expression(kid, names) })
	case parse.Fn:
		return c.function(n, names)
	case parse.App:
		return c.application(n, names)
	case parse.Let:
		return c.let(n, names)
	case parse.Rec:
		return c.expression(part(n, 1), c.rec(n, names))
	case parse.If:
		return c.choice(n, names)
	case parse.Seq:
		l := c.each(n, names)
		need(len(l) > 0, n)
		return l[len(l)-1]
	case parse.Tup:
		return made("tuple", c.each(n, names)...)
	case parse.Case:
		return c.cases(n, names)
	case parse.Try:
		return c.try(n, names)
	case parse.Raise:
		c.fit(made("exn"), c.expression(part(n, 0), names), n.Kids[0].At)
		return c.solver.Fresh()
	case parse.Trans:
		return c.expression(part(n, 0), names)
	}
	panic(misfit(n))
}

// each: the types of a node's parts, from the first to the last.
func (c *checker) each(n parse.Node, names *name) []kind.Type {
	var l []kind.Type
	for _, kid := range n.Kids {
		l = append(l, c.expression(kid, names))
	}
	return l
}

// constructed: the type of what a constructor makes, in an expression or a pattern, of parts of which typeOf tells
// the types.
func (c *checker) constructed(n parse.Node, typeOf func(parse.Node) kind.Type) kind.Type {
	con, ok := c.cons[n.Text]
	need(ok && len(con.args) == len(n.Kids), n)
	by := c.fresh(con.vars)
	var vars []int
	for i := range by {
		vars = append(vars, i+1)
	}
	for i, kid := range n.Kids {
		has := typeOf(kid)
		c.fit(kind.Swap(con.args[i], vars, by), has, kid.At)
	}
	return made(con.data, by...)
}

func (c *checker) function(n parse.Node, names *name) kind.Type {
	need(len(n.Kids) > 0, n)
	last := len(n.Kids) - 1
	params := c.fresh(last)
	for i, p := range n.Kids[:last] {
		if p.Op == parse.PVar {
			names = names.with(p.Text, params[i])
		}
	}
	t := c.expression(n.Kids[last], names)
	for i := last - 1; i >= 0; i-- {
		t = arrow(params[i], t)
	}
	return t
}

func (c *checker) application(n parse.Node, names *name) kind.Type {
	f := c.expression(part(n, 0), names)
	for _, kid := range n.Kids[1:] {
		a := c.expression(kid, names)
		r := c.solver.Fresh()
		c.fit(f, arrow(a, r), kid.At)
		f = r
	}
	return f
}

func (c *checker) let(n parse.Node, names *name) kind.Type {
	first := part(n, 0)
	t := c.expression(first, names)
	if n.Text != "_" {
		names = c.bind(n.Text, first, t, names)
	}
	return c.expression(part(n, 1), names)
}

// rec: the names, and that of a function that knows itself.
func (c *checker) rec(n parse.Node, names *name) *name {
	v := c.solver.Fresh()
	fn := part(n, 0)
	t := c.expression(fn, names.with(n.Text, v))
	c.fit(v, t, n.At)
	c.full(t, n.At)
	return c.bind(n.Text, fn, t, names)
}

func (c *checker) choice(n parse.Node, names *name) kind.Type {
	c.fit(made("bool"), c.expression(part(n, 0), names), n.Kids[0].At)
	second := c.expression(part(n, 1), names)
	c.fit(second, c.expression(part(n, 2), names), n.Kids[2].At)
	return second
}

func (c *checker) cases(n parse.Node, names *name) kind.Type {
	s := c.expression(part(n, 0), names)
	first := c.arm(part(n, 1), s, names)
	for _, arm := range n.Kids[2:] {
		c.fit(first, c.arm(arm, s, names), arm.Kids[1].At)
	}
	return first
}

func (c *checker) try(n parse.Node, names *name) kind.Type {
	t := c.expression(part(n, 0), names)
	for _, arm := range n.Kids[1:] {
		c.fit(t, c.arm(arm, made("exn"), names), arm.Kids[1].At)
	}
	return t
}

// arm: the type of an Arm's expression; its pattern is one of what has that type.
func (c *checker) arm(n parse.Node, of kind.Type, names *name) kind.Type {
	p := part(n, 0)
	has, inner := c.pattern(p, names)
	c.fit(of, has, p.At)
	return c.expression(part(n, 1), inner)
}

// pattern: its type, and the names with its variables.
func (c *checker) pattern(n parse.Node, names *name) (kind.Type, *name) {
	var t kind.Type
	inner := func(kid parse.Node) (has kind.Type) {
		has, names = c.pattern(kid, names)
		return has
	}
	switch n.Op {
	case parse.PAny:
		t = c.solver.Fresh()
	case parse.PVar:
		t = c.solver.Fresh()
		names = names.with(n.Text, t)
	case parse.PInt:
		t = made("int")
	case parse.PStr:
		t = made("string")
	case parse.PUnit:
		t = made("unit")
	case parse.PCon:
		t = c.constructed(n, inner)
	case parse.PTup:
		var kids []kind.Type
		for _, kid := range n.Kids {
			kids = append(kids, inner(kid))
		}
		t = made("tuple", kids...)
	default:
		panic(misfit(n))
	}
	c.full(t, n.At)
	return t, names
}
