package graph

import (
	"slices"
	"strings"

	"scriptor/api"
	"scriptor/val"
)

const (
	maxType = 1000    // bytes of a type's text
	maxId   = 1 << 40 // an object's number

	// What a directory's constructors are.
	isEmpty = 0
	isMore  = 1

	partsOfMore = 2 // a root, and the directory of the others
	partsOfRoot = 3
)

// Root is a name, its type's text, and the object that it leads to.
type Root struct {
	Name, Type string
	Id         int
}

func (r Root) isInForm() bool {
	return 1 <= len(r.Name) && len(r.Name) <= api.MaxName && len(r.Type) <= maxType && 1 <= r.Id && r.Id <= maxId
}

// byName: the same roots, in their order in a directory.
func byName(l []Root) []Root {
	sorted := slices.Clone(l)
	slices.SortFunc(sorted, func(a, b Root) int { return strings.Compare(a.Name, b.Name) })
	return sorted
}

// Dir: roots, as a value; Roots: of a value.
func Dir(l ...Root) (api.Val, api.Errno) {
	if len(l) > api.MaxRoots {
		return api.Val{}, api.ErrBig
	}
	sorted := byName(l)
	for i, r := range sorted {
		if !r.isInForm() || i > 0 && r.Name == sorted[i-1].Name {
			return api.Val{}, api.ErrForm
		}
	}
	v := empty()
	for _, r := range slices.Backward(sorted) {
		v = api.Val{Kind: api.Con, Num: isMore, Kids: []api.Val{r.tuple(), v}}
	}
	if e := val.Check(v); e != api.OK {
		return api.Val{}, e
	}
	return v, api.OK
}

// empty: the directory of no roots.
func empty() api.Val { return api.Val{Kind: api.Con, Num: isEmpty} }

func (r Root) tuple() api.Val {
	return api.Val{Kind: api.Tuple, Kids: []api.Val{
		{Kind: api.Str, Text: r.Name}, {Kind: api.Str, Text: r.Type}, {Kind: api.Pref, Num: r.Id}}}
}

func Roots(v api.Val) ([]Root, api.Errno) {
	var l []Root
	// A value that isn't in form may have no end: one root too many is enough for Dir to refuse it.
	for rest := v; len(l) <= api.MaxRoots; {
		r, others, ok := split(rest)
		if !ok {
			break
		}
		l, rest = append(l, r), others
	}
	if dir, e := Dir(l...); e != api.OK || !val.Same(v, dir) {
		return nil, api.ErrForm
	}
	return l, api.OK
}

// split: the first root of what has a directory's shape, and what stands behind it. Whether all else is right is
// left to Roots, which makes the directory anew.
func split(v api.Val) (Root, api.Val, bool) {
	if len(v.Kids) != partsOfMore || len(v.Kids[0].Kids) != partsOfRoot {
		return Root{}, api.Val{}, false
	}
	parts := v.Kids[0].Kids
	return Root{parts[0].Text, parts[1].Text, parts[2].Num}, v.Kids[1], true
}
