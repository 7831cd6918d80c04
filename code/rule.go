package code

import (
	"scriptor/api"
	"scriptor/num"
)

const (
	prims     = 40  // how many infer.Prims there are
	cons      = 256 // of one data type
	closed    = 200 // values in a function
	leastTup  = 2
	floatSize = 8
)

// rule is what the table says of an Op: its name, whether it names A and B, how high a frame has to be at least, and by
// how much it grows; besides, the values that Ins.taken tells have to be there, and go.
type rule struct {
	name       string
	hasA, hasB bool
	need, grow int
}

var rules = [...]rule{
	Int:    {"Int", true, false, 0, 1},
	Str:    {"Str", true, false, 0, 1},
	Float:  {"Float", true, false, 0, 1},
	Unit:   {"Unit", false, false, 0, 1},
	Local:  {"Local", true, false, 0, 1},
	Free:   {"Free", true, false, 0, 1},
	Self:   {"Self", false, false, 0, 1},
	Global: {"Global", true, false, 0, 1},
	Set:    {"Set", true, false, 1, -1},
	Prim:   {"Prim", true, false, 0, 1},
	Con:    {"Con", true, true, 0, 1},
	Tup:    {"Tup", true, false, 0, 1},
	Close:  {"Close", true, true, 0, 1},
	Apply:  {"Apply", false, false, 2, -1},
	Ret:    {"Ret", false, false, 2, 0},
	Jump:   {"Jump", true, false, 0, 0},
	Unless: {"Unless", true, false, 1, -1},
	Pop:    {"Pop", false, false, 1, -1},
	Slide:  {"Slide", true, false, 1, 0},
	Field:  {"Field", true, false, 1, 0},
	IsInt:  {"IsInt", true, true, 1, -1},
	IsStr:  {"IsStr", true, true, 1, -1},
	IsCon:  {"IsCon", true, true, 1, -1},
	Raise:  {"Raise", false, false, 1, 0},
	Try:    {"Try", true, false, 0, 0},
	EndTry: {"EndTry", false, false, 0, 0},
	Begin:  {"Begin", false, false, 0, 0},
	Commit: {"Commit", false, false, 0, 0},
	Halt:   {"Halt", false, false, 0, 0},
}

// rule: of a step; of an Op that is none there is nothing to be said.
func (i Ins) rule() rule {
	if !isBelow(i.Op, len(rules)) {
		return rule{}
	}
	return rules[i.Op]
}

// isBelow: is it one of the first so many, from 0 on?
func isBelow(n, count int) bool { return 0 <= n && n < count }

// isWellMade: what has to hold of a step that nobody comes to, too.
func (i Ins) isWellMade() bool {
	r := i.rule()
	return isBelow(i.Op, len(rules)) && (r.hasA || i.A == 0) && (r.hasB || i.B == 0)
}

// taken: how many values go, as its numbers tell.
func (i Ins) taken() int {
	switch i.Op {
	case Con, Close:
		return i.B
	case Tup, Slide:
		return i.A
	}
	return 0
}

// isFine: does what the table asks of A and B hold, and of where the step stands?
func (c *checker) isFine(i Ins, s state) bool {
	switch i.Op {
	case Int, IsInt:
		return num.Wrap(i.A) == i.A
	case Str, IsStr:
		return isBelow(i.A, len(c.code.Strs))
	case Float:
		return isBelow(i.A, len(c.code.Strs)) && isFloat(c.code.Strs[i.A])
	case Local:
		return isBelow(i.A, s.height)
	case Free:
		return isBelow(i.A, c.counts[s.fun])
	case Self:
		return s.fun != 0
	case Global, Set:
		return isBelow(i.A, c.code.Globals)
	case Prim:
		return isBelow(i.A, prims)
	case Con:
		return isBelow(i.A, cons) && isBelow(i.B, api.MaxArgs+1)
	case IsCon:
		return isBelow(i.A, cons)
	case Tup:
		return leastTup <= i.A && i.A <= api.MaxArgs
	case Close:
		return i.A != 0 && isBelow(i.A, len(c.code.Funs)) && isBelow(i.B, closed+1)
	case Ret:
		return s.fun != 0 && s.height == 2 && s.open == none
	case Slide:
		return i.A >= 0
	case Field:
		return isBelow(i.A, api.MaxArgs)
	case Halt:
		return s.fun == 0 && s.open == none
	}
	return true
}

// isFloat: are these a float's bytes, the highest first?
func isFloat(s string) bool {
	if len(s) != floatSize {
		return false
	}
	var x num.Float
	for i := range len(s) {
		x = x<<8 | num.Float(s[i])
	}
	// A NaN alone isn't the same as itself.
	return x == num.Nan || x.Same(x)
}
