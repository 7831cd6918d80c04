package infer

import (
	"slices"

	"scriptor/api"
	"scriptor/kind"
	"scriptor/parse"
)

// name is a name that is bound, and those that were bound ahead of it, or around.
type name struct {
	text string
	kind.Type
	all   []int // its type's variables in the place of which any types may stand
	fixed bool  // is it bound without "for all types"?
	up    *name
}

// find: the name of that text that was bound last, or nil.
func (b *name) find(text string) *name {
	for b != nil && b.text != text {
		b = b.up
	}
	return b
}

// with: these, and one of that type alone.
func (b *name) with(text string, t kind.Type) *name {
	return &name{text: text, Type: t, fixed: true, up: b}
}

// bind: the names, and one of an expression's type; for all types, if it is a value.
func (c *checker) bind(text string, n parse.Node, t kind.Type, names *name) *name {
	if !isValue(n) {
		return names.with(text, t)
	}
	return &name{text: text, Type: t, all: c.loose(c.full(t, n.At), names), up: names}
}

// isValue: is there nothing left to be done?
func isValue(n parse.Node) bool {
	switch n.Op {
	case parse.Fn, parse.Int, parse.Float, parse.Str, parse.Unit, parse.Var:
		return true
	case parse.Con, parse.Tup:
		return !slices.ContainsFunc(n.Kids, func(kid parse.Node) bool { return !isValue(kid) })
	}
	return false
}

// loose: the variables of a type in full that are in the type of no name that is bound without "for all types".
func (c *checker) loose(t kind.Type, names *name) []int {
	vars := kind.Vars(t)
	for b := names; b != nil && len(vars) > 0; b = b.up {
		if b.fixed {
			vars = slices.DeleteFunc(vars, c.within(b.Type))
		}
	}
	return vars
}

// within: is a variable in the type, in full? In one that is too big none counts.
func (c *checker) within(t kind.Type) func(int) bool {
	in := map[int]struct{}{}
	if full, e := c.solver.Full(t); e == api.OK {
		for _, v := range kind.Vars(full) {
			in[v] = struct{}{}
		}
	}
	return func(v int) bool {
		_, ok := in[v]
		return ok
	}
}

// instance: a name's type, with fresh variables where any types may stand.
func (c *checker) instance(n parse.Node, names *name) kind.Type {
	b := names.find(n.Text)
	need(b != nil, n)
	if len(b.all) == 0 {
		return b.Type
	}
	full := c.full(b.Type, n.At)
	var vars []int
	for _, v := range kind.Vars(full) {
		if slices.Contains(b.all, v) {
			vars = append(vars, v)
		}
	}
	return kind.Swap(full, vars, c.fresh(len(vars)))
}

// fresh: so many variables that weren't there.
func (c *checker) fresh(n int) []kind.Type {
	var l []kind.Type
	for range n {
		l = append(l, c.solver.Fresh())
	}
	return l
}
