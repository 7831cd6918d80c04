package code

import "scriptor/api"

const (
	none      = 0 // no bracket is open
	maxHeight = 10000
)

// bracket is a Try, with its A, or a Begin, and which one is open around it.
type bracket struct {
	isTry  bool
	a      int
	around int
}

// state is what is known of a step that is come to: in which function, how high the frame is, which bracket is the
// innermost one (by its number: two that are alike, in brackets that are alike, have one).
type state struct {
	isMet             bool
	fun, height, open int
}

// checker goes to all steps that are come to.
type checker struct {
	code     Code
	counts   []int // of each function how many values are closed in
	states   []state
	waiting  []int // steps that are come to, and weren't looked at
	brackets []bracket
	numbers  map[bracket]int
}

// check throws what is wrong, unless the code is in order.
func check(code Code) {
	need(isBelow(len(code.Funs)-1, maxFuns) && isBelow(len(code.Ins)-1, maxSteps))
	need(len(code.Strs) <= maxStrs && isBelow(code.Globals, maxGlobals+1))
	for _, s := range code.Strs {
		need(len(s) <= api.MaxStr)
	}
	for _, i := range code.Ins {
		need(i.isWellMade())
	}
	c := checker{code: code, counts: counts(code), states: make([]state, len(code.Ins)), brackets: make([]bracket, 1), numbers: map[bracket]int{}}
	for fun, place := range code.Funs {
		// Ahead of the program's frame nothing is pushed, ahead of a function's its argument is.
		c.come(place, state{true, fun, min(fun, 1), none})
	}
	for len(c.waiting) > 0 {
		last := len(c.waiting) - 1
		at := c.waiting[last]
		c.waiting = c.waiting[:last]
		c.step(at)
	}
}

// counts: of each function how many values are closed in, as all Closes of it say.
func counts(c Code) []int {
	l, named := make([]int, len(c.Funs)), make([]bool, len(c.Funs))
	for _, i := range c.Ins {
		if i.Op == Close && i.A != 0 && isBelow(i.A, len(l)) {
			need(!named[i.A] || l[i.A] == i.B)
			l[i.A], named[i.A] = i.B, true
		}
	}
	return l
}

// come: on a way from another step, or from a function's beginning, one comes here.
func (c *checker) come(at int, s state) {
	need(isBelow(at, len(c.states)) && s.height <= maxHeight)
	if !c.states[at].isMet {
		c.states[at] = s
		c.waiting = append(c.waiting, at)
	}
	need(c.states[at] == s)
}

// step: what has to hold of one that is come to, and where it leads.
func (c *checker) step(at int) {
	i, s := c.code.Ins[at], c.states[at]
	need(c.isFine(i, s))
	r, taken := i.rule(), i.taken()
	need(s.height-r.need >= taken)
	s.height += r.grow - taken
	switch i.Op {
	case Ret, Raise, Halt:
		return
	case Jump:
		c.come(i.A, s)
		return
	case Unless:
		c.come(i.A, s)
	case IsInt, IsStr, IsCon:
		c.come(i.B, s)
	case Try:
		c.come(i.A, state{true, s.fun, s.height + 1, s.open})
		s.open = c.number(bracket{true, i.A, s.open})
	case Begin:
		s.open = c.number(bracket{false, 0, s.open})
	case EndTry, Commit:
		need(s.open != none && c.brackets[s.open].isTry == (i.Op == EndTry))
		s.open = c.brackets[s.open].around
	}
	c.come(at+1, s)
}

// number: of a bracket, always the same one.
func (c *checker) number(b bracket) int {
	n, ok := c.numbers[b]
	if !ok {
		n = len(c.brackets)
		c.numbers[b] = n
		c.brackets = append(c.brackets, b)
	}
	return n
}
