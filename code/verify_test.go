package code_test

import (
	"math"
	"slices"
	"strconv"
	"strings"
	"testing"

	"scriptor/api"
	"scriptor/code"
)

// P16.1: the examples, and programs that are in order.
func TestInOrder(t *testing.T) {
	fine(t,
		"Halt", "Int 1, Halt", "Int 1, Unless 0, Halt", "Jump 0", "Int 1, Raise", "Jump 2, Halt, Jump 1",
		"Int 1, Str 0, Float 1, Unit, Local 3, Global 2, Set 0, Prim 39, Con 255 6, Halt",
		"Unit, Unit, Unit, Tup 3, Field 7, Pop, Halt", "Unit, Unit, Unit, Slide 2, Pop, Halt", "Unit, Slide 0, Halt",
		"Prim 0, Int 1, Apply, Int 2, Apply, Halt",
		"Int 1, Unless 4, Int 2, Jump 5, Int 3, Pop, Halt",
		"Int 1, IsInt 5 0, Halt", "Int 1, IsStr 0 0, Halt", "Int 1, IsCon 0 0, Halt",
		"Try 3, EndTry, Jump 4, Pop, Halt", "Begin, Commit, Halt", "Begin, Try 4, EndTry, Jump 5, Pop, Commit, Halt",
		"Try 7, Begin, Int 1, Pop, Commit, EndTry, Int 1, Halt", "Int 5, Try 3, Raise, Pop, Halt",
		"Close 1 0, Halt | Unit, Ret", "Close 1 0, Unit, Apply, Halt | Local 0, Ret",
		"Close 1 0, Halt | Self, Ret", "Int 1, Int 2, Close 1 2, Halt | Free 1, Ret", "Halt | Local 0, Raise",
		"Close 1 0, Close 1 0, Apply, Halt | Begin, Unit, Commit, Ret", "Close 2 0, Halt | Unit, Ret | Close 2 0, Ret",
	)
	bad(t, "Pop, Halt", "Try 1, Halt, Halt", "Unit, Try 1, Halt")
}

// fill: the steps with a number in the place of #.
func fill(src string, n int) string { return strings.ReplaceAll(src, "#", strconv.Itoa(n)) }

// P16.1: each step's numbers, up to the edges that the table names, and beyond.
func TestNumbers(t *testing.T) {
	for _, c := range []struct {
		src         string
		least, most int
	}{
		{"Int #, Halt", -1 << 62, 1<<62 - 1}, {"Unit, IsInt # 2, Halt", -1 << 62, 1<<62 - 1},
		{"Str #, Halt", 0, 7}, {"Unit, IsStr # 2, Halt", 0, 7},
		{"Local #, Halt", 0, -1}, {"Unit, Unit, Local #, Halt", 0, 1}, {"Halt | Local #, Ret", 0, 0},
		{"Halt | Free #, Ret", 0, -1}, {"Unit, Unit, Close 1 2, Halt | Free #, Ret", 0, 1}, {"Free #, Halt", 0, -1},
		{"Global #, Halt", 0, 2}, {"Unit, Set #, Halt", 0, 2}, {"Prim #, Halt", 0, 39},
		{"Con # 0, Halt", 0, 255}, {"Unit, IsCon # 2, Halt", 0, 255},
		{"Unit, Unit, Con 0 #, Halt", 0, 2}, {strings.Repeat("Unit, ", 12) + "Con 0 #, Halt", 0, 8},
		{"Unit, Unit, Tup #, Halt", 2, 2}, {strings.Repeat("Unit, ", 12) + "Tup #, Halt", 2, 8}, {"Unit, Tup #, Halt", 2, -1},
		{"Close # 0, Halt | Unit, Ret | Unit, Ret", 1, 2}, {"Unit, Unit, Close 1 #, Halt | Unit, Ret", 0, 2}, {strings.Repeat("Unit, ", 300) + "Close 1 #, Halt | Unit, Ret", 0, 200},
		{"Jump #, Halt", 0, 1}, {"Unit, Begin, Unless #, Jump 3", 3, 3}, {"Unit, Begin, IsInt 1 #, Jump 3", 3, 3}, {"Unit, Begin, IsStr 0 #, Jump 3", 3, 3}, {"Unit, Begin, IsCon 0 #, Jump 3", 3, 3},
		{"Unit, Unit, Unit, Slide #, Halt", 0, 2}, {"Unit, Slide #, Halt", 0, 0}, {"Unit, Field #, Halt", 0, 7},
		{"Try #, Jump 1, Jump 2, Unit", 2, 2},
	} {
		for _, n := range []int{math.MinInt, -1<<62 - 1, -1 << 62, -2, -1, 0, 1, 2, 3, 4, 6, 7, 8, 9, 12, 38, 39, 40, 41, 199, 200, 201, 255, 256, 1<<62 - 1, 1 << 62, math.MaxInt} {
			src := fill(c.src, n)
			if c.least <= n && n <= c.most {
				fine(t, src)
			} else {
				bad(t, src)
			}
		}
	}
}

// P16.1: the height that each step needs; one less is too low.
func TestHeights(t *testing.T) {
	for _, c := range []struct {
		step      string
		need, end int
	}{
		{"Int 1", 0, 1}, {"Str 0", 0, 1}, {"Float 1", 0, 1}, {"Unit", 0, 1}, {"Local 0", 1, 2}, {"Global 0", 0, 1}, {"Set 0", 1, 0}, {"Prim 0", 0, 1},
		{"Con 3 0", 0, 1}, {"Con 3 1", 1, 1}, {"Con 3 8", 8, 1}, {"Tup 2", 2, 1}, {"Tup 8", 8, 1}, {"Close 1 0", 0, 1}, {"Close 1 5", 5, 1},
		{"Apply", 2, 1}, {"Pop", 1, 0}, {"Slide 0", 1, 1}, {"Slide 3", 4, 1}, {"Field 0", 1, 1}, {"Begin, Commit", 0, 0},
	} {
		for _, h := range []int{c.need - 1, c.need, c.need + 1, c.need + 7} {
			if h < 0 {
				continue
			}
			src := strings.Repeat("Unit, ", h) + c.step + ", "
			end := h - c.need + c.end
			if h < c.need {
				bad(t, src+"Halt | Unit, Ret")
				continue
			}
			// Just as many can be taken away as there should be.
			fine(t, src+strings.Repeat("Pop, ", end)+"Halt | Unit, Ret")
			bad(t, src+strings.Repeat("Pop, ", end+1)+"Halt | Unit, Ret")
		}
	}
	for _, step := range []string{"Unless #", "IsInt 1 #", "IsStr 0 #", "IsCon 1 #"} {
		// Both ways have one value less.
		fine(t, fill("Unit, Unit, "+step+", Pop, Halt, Pop, Halt", 5))
		bad(t, fill("Unit, Unit, "+step+", Pop, Pop, Halt, Pop, Halt", 6), fill("Unit, Unit, "+step+", Pop, Halt, Pop, Pop, Halt", 5), fill(step+", Halt", 1))
	}
	fine(t, "Unit, Raise")
	bad(t, "Raise")
	// A function's frame begins with its argument, and ends with the answer alone upon it.
	fine(t, "Halt | Unit, Ret", "Halt | Pop, Unit, Unit, Ret", "Halt | Unit, Unit, Slide 1, Ret")
	fine(t, "Unit, Close 1 1, Halt | Pop, Free 0, Unit, Ret", "Halt | Pop, Self, Self, Ret")
	bad(t, "Halt | Ret", "Halt | Unit, Unit, Ret", "Halt | Pop, Pop, Unit, Ret", "Halt | Pop, Unit, Ret")
}

// P16.1: what belongs to functions, and what to the program alone.
func TestFunctions(t *testing.T) {
	bad(t, "Self, Halt", "Unit, Unit, Ret", "Halt | Halt", "Halt | Unit, Halt", "Unit, Raise | Halt")
	// Of all Closes of a function one count is said, of those that nobody comes to, too.
	fine(t, "Unit, Close 1 1, Unit, Close 1 1, Halt | Free 0, Ret", "Unit, Close 1 1, Halt, Close 1 1 | Unit, Ret", "Halt, Close 1 2 | Free 1, Ret", "Close 1 0, Halt, Close 2 7 | Unit, Ret | Free 6, Ret")
	bad(t, "Unit, Close 1 1, Close 1 0, Halt | Unit, Ret", "Unit, Close 1 1, Halt, Close 1 0 | Unit, Ret", "Halt, Close 1 0 | Free 0, Ret", "Unit, Close 1 1, Halt | Free 1, Ret", "Close 1 0, Halt, Close 2 1, Close 1 3 | Unit, Ret | Unit, Ret")
	// A Close of what is none is wrong where one comes to it alone.
	fine(t, "Halt, Close 9 3", "Halt, Close 0 0", "Halt, Close -1 5")
	bad(t, "Close 1 0, Halt", "Close 0 0, Halt | Unit, Ret")
	// What no Close names is gone through all the same.
	bad(t, "Halt | Pop, Pop", "Halt | Free 0, Ret")
	// A step belongs to one function.
	bad(t, "Jump 1, Halt | Jump 1", "Halt | Unit, Jump 4, Unit | Unit, Ret", "Unit, Halt | Jump 1")
	c := several("Halt | Unit, Ret")
	for _, place := range []int{-1, 0, 3, 4, math.MaxInt, math.MinInt} {
		c.Funs[1] = place
		if e := code.Verify(c); e != api.ErrForm {
			t.Errorf("%d: %d", place, e)
		}
		if e := code.Verify(code.Code{Ins: steps("Halt"), Funs: []int{place}}); (e == api.OK) != (place == 0) {
			t.Errorf("%d: %d", place, e)
		}
	}
	// Functions begin anywhere, and the program, too.
	if e := code.Verify(code.Code{Ins: steps("Unit, Ret, Unit, Ret, Close 1 0, Halt"), Funs: []int{4, 2, 0}}); e != api.OK {
		t.Error(e)
	}
	if e := code.Verify(code.Code{Ins: steps("Unit, Ret, Close 1 0, Halt"), Funs: []int{2, 0, 0}}); e != api.ErrForm {
		t.Error(e)
	}
}

// P16.1: on all ways to a step there is one height.
func TestWays(t *testing.T) {
	fine(t, "Int 1, Unless 4, Int 2, Jump 5, Int 3, Pop, Halt", "Int 1, Int 1, Unless 1, Halt", "Jump 1, Jump 0")
	bad(t, "Int 1, Unless 3, Int 2, Halt", "Int 1, Jump 0", "Int 1, Unless 4, Int 2, Jump 4, Pop, Halt", "Int 1, Int 1, Unless 0, Halt", "Unit, IsInt 1 3, Unit, Halt", "Unit, Pop, Jump 1")
	bad(t, "Int 1", "Int 1, Unless 0", "Jump 1", "Jump -1", "Begin, Commit", "Halt | Unit", "Unit, Try 3, Raise", "Unit, IsCon 1 2", "Try 5, EndTry, Halt", "Unit, Unless 9, Halt")
}

// P16.1: brackets, one within the other.
func TestBrackets(t *testing.T) {
	fine(t, "Begin, Begin, Commit, Commit, Halt", "Try 2, Jump 1, Unit, Halt", "Begin, Jump 3, Halt, Commit, Jump 2")
	bad(t, "Begin, Halt", "Try 2, Halt, Halt", "Begin, EndTry, Halt", "Try 2, Commit, Halt", "EndTry, Halt", "Commit, Halt", "Begin, Commit, Commit, Halt", "Begin, Try 4, Commit, EndTry, Halt", "Try 2, EndTry, EndTry, Halt")
	bad(t, "Halt | Begin, Unit, Ret", "Halt | Unit, Try 3, Ret")
	// On all ways to a step the same ones are open: of Begins how many, of Trys where they go on.
	bad(t, "Unit, Unless 3, Begin, Commit, Halt", "Begin, Jump 0", "Unit, Unless 4, Begin, Jump 6, Begin, Begin, Commit, Jump 7")
	fine(t, "Unit, Unless 4, Begin, Jump 5, Begin, Commit, Halt", "Unit, Unless 4, Try 7, Jump 5, Try 7, EndTry, Halt, Pop, Jump 6")
	bad(t, "Unit, Unless 4, Try 7, Jump 5, Try 9, EndTry, Halt, Pop, Jump 6, Pop, Jump 6", "Unit, Unless 4, Try 7, Jump 5, Begin, EndTry, Halt, Pop, Jump 6")
	bad(t, "Unit, Unless 5, Begin, Try 9, Jump 7, Try 9, Begin, Halt, Halt, Halt")
	bad(t, "Unit, Unless 5, Try 11, Try 12, Jump 7, Try 12, Try 12, EndTry, EndTry, Jump 10, Halt, Halt, Halt")
	// What is raised within a Try goes on with what was open ahead of it, one value higher.
	fine(t, "Begin, Try 4, EndTry, Jump 5, Pop, Commit, Halt", "Unit, Try 5, Pop, EndTry, Halt, Pop, Pop, Halt", "Unit, Unit, Try 5, EndTry, Halt, Pop, Pop, Pop, Halt")
	bad(t, "Begin, Try 3, EndTry, Commit, Halt", "Begin, Try 5, EndTry, Commit, Halt, Pop, Halt", "Try 3, EndTry, Halt, Commit, Halt", "Try 3, EndTry, Halt, EndTry, Halt", "Unit, Try 4, EndTry, Halt, Pop, Pop, Pop, Halt")
	// A program can end by an exception within its brackets.
	fine(t, "Begin, Unit, Raise", "Try 3, Unit, Raise, Raise")
}

// P16.1: what has to hold of steps that nobody comes to, and what hasn't.
func TestNobodyComes(t *testing.T) {
	fine(t, "Halt, Pop", "Halt, Int 4611686018427387904", "Halt, Str 99", "Halt, Local -1", "Halt, Ret", "Halt, Jump 99", "Halt, EndTry", "Halt, Con 256 9", "Halt, Tup 1", "Halt, Prim 40", "Halt, Self", "Jump 2, Slide -1, Halt", "Unit, Raise, Float 2")
	for _, name := range names {
		name, numbers, _ := strings.Cut(name, ":")
		bad := func(src string, want api.Errno) {
			if e := code.Verify(several(src)); e != want {
				t.Errorf("%s: %d", src, e)
			}
		}
		wantA, wantB := api.ErrForm, api.ErrForm
		if strings.Contains(numbers, "A") {
			wantA = api.OK
		}
		if strings.Contains(numbers, "B") {
			wantB = api.OK
		}
		for _, n := range []string{"1", "-1", "9223372036854775807"} {
			bad("Halt, "+name+" "+n, wantA)
			bad("Halt, "+name+" 0 "+n, wantB)
		}
	}
	for _, n := range []int{-1, 29, 30, math.MaxInt, math.MinInt} {
		for _, l := range [][]code.Ins{{{Op: n}}, {{Op: code.Halt}, {Op: n}}} {
			if e := code.Verify(code.Code{Ins: l, Funs: []int{0}}); e != api.ErrForm {
				t.Errorf("Op %d: %d", n, e)
			}
		}
	}
}

// P16.1: which bytes are a float's.
func TestFloats(t *testing.T) {
	fine(t, "Float 1, Halt", "Float 5, Halt", "Float 6, Halt")
	bad(t, "Float 0, Halt", "Float 2, Halt", "Float 3, Halt", "Float 4, Halt", "Float 7, Halt", "Float 8, Halt", "Float -1, Halt")
	for _, u := range []uint64{0, 1 << 63, 0x7FF0000000000000, 0xFFF0000000000000, 0x7FEFFFFFFFFFFFFF, 1, 0xF87F, 0x7FF8000000000000} {
		if e := code.Verify(code.Code{Ins: steps("Float 0, Halt"), Funs: []int{0}, Strs: []string{bits(u)}}); e != api.OK {
			t.Errorf("%x: %d", u, e)
		}
	}
	for _, u := range []uint64{0x7FF0000000000001, 0xFFF8000000000000, 0x7FFFFFFFFFFFFFFF, 0xFFFFFFFFFFFFFFFF, 0x7FF8000000000001} {
		if e := code.Verify(code.Code{Ins: steps("Float 0, Halt"), Funs: []int{0}, Strs: []string{bits(u)}}); e != api.ErrForm {
			t.Errorf("%x: %d", u, e)
		}
	}
}

// P16.1: how much there may be.
func TestLimits(t *testing.T) {
	halt := steps("Halt")
	for _, c := range []struct {
		name string
		code code.Code
		want api.Errno
	}{
		{"nothing", code.Code{}, api.ErrForm},
		{"no functions", code.Code{Ins: halt}, api.ErrForm},
		{"no steps", code.Code{Funs: []int{0}}, api.ErrForm},
		{"65536 steps", code.Code{Ins: slices.Repeat(halt, 65536), Funs: []int{65535}}, api.OK},
		{"65537 steps", code.Code{Ins: slices.Repeat(halt, 65537), Funs: []int{0}}, api.ErrForm},
		{"4096 texts", code.Code{Ins: halt, Funs: []int{0}, Strs: make([]string, 4096)}, api.OK},
		{"4097 texts", code.Code{Ins: halt, Funs: []int{0}, Strs: make([]string, 4097)}, api.ErrForm},
		{"4096 bytes", code.Code{Ins: halt, Funs: []int{0}, Strs: []string{"", strings.Repeat("x", 4096)}}, api.OK},
		{"4097 bytes", code.Code{Ins: halt, Funs: []int{0}, Strs: []string{"", strings.Repeat("x", 4097)}}, api.ErrForm},
		{"4096 globals", code.Code{Ins: steps("Global 4095, Set 4095, Halt"), Funs: []int{0}, Globals: 4096}, api.OK},
		{"4097 globals", code.Code{Ins: halt, Funs: []int{0}, Globals: 4097}, api.ErrForm},
		{"-1 globals", code.Code{Ins: halt, Funs: []int{0}, Globals: -1}, api.ErrForm},
		{"height 10000", several(strings.Repeat("Unit,", 10000) + "Halt"), api.OK},
		{"height 10001", several(strings.Repeat("Unit,", 10001) + "Halt"), api.ErrForm},
		{"height 10001 of an exception", several("Jump 2, Halt," + strings.Repeat("Unit,", 10000) + "Try 1, Raise"), api.ErrForm},
		{"height 10000 of an exception", several("Jump 2, Halt," + strings.Repeat("Unit,", 9999) + "Try 1, Raise"), api.OK},
		{"30000 brackets", several(strings.Repeat("Begin,", 30000) + strings.Repeat("Commit,", 30000) + "Halt"), api.OK},
		{"a bracket too many", several(strings.Repeat("Begin,", 30000) + strings.Repeat("Commit,", 30001) + "Halt"), api.ErrForm},
		{"brackets again and again", several("Begin, Commit, Jump 0"), api.OK},
	} {
		if e := code.Verify(c.code); e != c.want {
			t.Errorf("%s: %d", c.name, e)
		}
	}
	for _, n := range []int{4096, 4097} {
		c := code.Code{Ins: halt}
		for f := range n {
			c.Funs = append(c.Funs, len(c.Ins)-1)
			if f < n-1 {
				c.Ins = append(c.Ins, steps("Unit, Ret")...)
				c.Funs[f] = len(c.Ins) - 2
			}
		}
		c.Funs[0], c.Funs[n-1] = 0, c.Funs[0]
		if e := code.Verify(c); (e == api.OK) != (n == 4096) {
			t.Errorf("%d functions: %d", n, e)
		}
	}
}

// P16.1: code by chance, against the table told once more.
func TestSome(t *testing.T) {
	d := dice(16)
	count := 0
	for range 150000 {
		c := d.some()
		want := api.ErrForm
		if isInOrder(c) {
			want = api.OK
			count++
		}
		if e := code.Verify(c); e != want {
			t.Fatalf("%d, not %d: %v\n%s", e, want, c.Funs, code.Text(c))
		}
	}
	if count < 1000 {
		t.Error("only so many in order:", count)
	}
}

// P16.1: code that is in order, and what it is when one number of it is another one.
func TestChanged(t *testing.T) {
	d := dice(61)
	for range 2000 {
		c := d.inOrder()
		if e := code.Verify(c); e != api.OK || !isInOrder(c) {
			t.Fatalf("%d, %v: %v\n%s", e, isInOrder(c), c.Funs, code.Text(c))
		}
		for range 10 {
			x := copied(c)
			i := &x.Ins[d.below(len(x.Ins))]
			*[]*int{&i.Op, &i.A, &i.B, &i.A, &x.Funs[d.below(len(x.Funs))]}[d.below(5)] = d.below(len(x.Ins) + 3)
			if e := code.Verify(x); (e == api.OK) != isInOrder(x) {
				t.Fatalf("%d, %v: %v\n%s", e, isInOrder(x), x.Funs, code.Text(x))
			}
		}
	}
}
