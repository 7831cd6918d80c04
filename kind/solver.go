package kind

import "scriptor/api"

const (
	maxParts = 1000  // of a type in full
	maxPairs = 10000 // that one Unify looks at
)

// Solver knows what variables stand for.
type Solver struct {
	last   int          // the last fresh variable
	stands map[int]Type // for what; none of it is anybody else's memory
}

// New: nothing yet.
func New() *Solver { return &Solver{} }

// Fresh: a variable that wasn't there.
func (s *Solver) Fresh() Type {
	if s == nil {
		return Var(0)
	}
	s.last++
	return Var(s.last)
}

// Unify: both are one from now on.
func (s *Solver) Unify(a, b Type) api.Errno {
	if s == nil {
		return api.ErrArg
	}
	u := unifier{solver: s}
	return u.pair(side{Type: a}, side{Type: b})
}

// unifier is one Unify.
type unifier struct {
	solver *Solver
	pairs  int // that were looked at
}

// side is one type of a pair.
type side struct {
	Type
	own bool // is it the solver's own memory? What is handed in is copied ahead of being kept.
}

// pair makes two types one.
func (u *unifier) pair(a, b side) api.Errno {
	if u.pairs == maxPairs {
		return api.ErrBig
	}
	u.pairs++
	a, b = u.found(a), u.found(b)
	switch {
	case a.Op == variable && b.Op == variable && a.Num == b.Num:
		return api.OK
	case a.Op == variable:
		return u.stand(a.Num, b)
	case b.Op == variable:
		return u.stand(b.Num, a)
	case a.Text != b.Text || len(a.Kids) != len(b.Kids):
		return api.ErrType
	}
	for i := range a.Kids {
		if e := u.pair(a.kid(i), b.kid(i)); e != api.OK {
			return e
		}
	}
	return api.OK
}

func (a side) kid(i int) side { return side{a.Kids[i], a.own} }

// found: what stands in the place of a variable that stands for something.
func (u *unifier) found(a side) side {
	if a.Op != variable {
		return a
	}
	return side{u.solver.standing(a.Num), true}
}

// stand makes a variable stand for a type that isn't the variable itself.
func (u *unifier) stand(n int, by side) api.Errno {
	within := false
	if !u.solver.fits(by.Type, func(m int) { within = within || m == n }) {
		return api.ErrBig
	}
	if within {
		return api.ErrType
	}
	if !by.own {
		by.Type = copied(by.Type)
	}
	u.solver.keep(n, by.Type)
	return api.OK
}

func (s *Solver) keep(n int, t Type) {
	if s.stands == nil {
		s.stands = map[int]Type{}
	}
	s.stands[n] = t
}

// standing: for what a variable stands, again and again; itself, if it is for nothing.
func (s *Solver) standing(n int) Type {
	t := Var(n)
	for t.Op == variable {
		next, ok := s.stands[t.Num]
		if !ok {
			break
		}
		if next.Op == variable {
			// So that a long row of variables is shorter when it is gone through again.
			if further, ok := s.stands[next.Num]; ok {
				s.stands[t.Num] = further
			}
		}
		t = next
	}
	return t
}

// fits: has a type in full no more parts than it may have? visit is called with its variables.
func (s *Solver) fits(t Type, visit func(int)) bool {
	left := maxParts
	return s.look(t, &left, visit)
}

// look goes through the parts of a type in full, as long as some are left.
func (s *Solver) look(t Type, left *int, visit func(int)) bool {
	if *left == 0 {
		return false
	}
	*left--
	if t.Op == variable {
		t = s.standing(t.Num)
	}
	if t.Op == variable {
		visit(t.Num)
	}
	for _, kid := range t.parts() {
		if !s.look(kid, left, visit) {
			return false
		}
	}
	return true
}

// Full: a type, with all that variables stand for.
func (s *Solver) Full(t Type) (Type, api.Errno) {
	if s == nil {
		return Type{}, api.ErrArg
	}
	if !s.fits(t, func(int) {}) {
		return Type{}, api.ErrBig
	}
	return t.swapped(s.full), api.OK
}

// full: what a variable stands for, in full.
func (s *Solver) full(n int) Type {
	t := s.standing(n)
	if t.Op == variable {
		return t
	}
	return t.swapped(s.full)
}
