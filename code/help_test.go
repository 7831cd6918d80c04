package code_test

import (
	"encoding/binary"
	"math"
	"slices"
	"strconv"
	"strings"
	"testing"

	"scriptor/api"
	"scriptor/code"
)

// names are of the steps, by their numbers; with each what the table names.
var names = strings.Fields("Int:A Str:A Float:A Unit Local:A Free:A Self Global:A Set:A Prim:A Con:AB Tup:A Close:AB Apply Ret Jump:A Unless:A Pop Slide:A Field:A IsInt:AB IsStr:AB IsCon:AB Raise Try:A EndTry Begin Commit Halt")

// op: a step's number and what the table names, by its name.
func op(name string) (int, string) {
	i := slices.IndexFunc(names, func(s string) bool { return s == name || strings.HasPrefix(s, name+":") })
	if i < 0 {
		panic(name)
	}
	_, numbers, _ := strings.Cut(names[i], ":")
	return i, numbers
}

// steps: as they are written here, with a comma between: a name, and numbers.
func steps(src string) []code.Ins {
	var l []code.Ins
	for _, s := range strings.Split(src, ",") {
		words := strings.Fields(s)
		if len(words) == 0 {
			continue
		}
		var i code.Ins
		i.Op, _ = op(words[0])
		for k, word := range words[1:] {
			n, err := strconv.Atoi(word)
			if err != nil {
				panic(err)
			}
			*[]*int{&i.A, &i.B}[k] = n
		}
		l = append(l, i)
	}
	return l
}

// Texts that code in the tests has: 0 is "a", 1 a float, 2 another NaN, 3 has seven bytes, 4 nine, 5 is the NaN there is, 6 infinity.
func texts() []string {
	return []string{"a", bits(math.Float64bits(1.5)), bits(0x7FF8000000000001), "1234567", "123456789", bits(0x7FF8000000000000), bits(0xFFF0000000000000), bits(0xFFF8000000000000)}
}

func bits(u uint64) string { return string(binary.BigEndian.AppendUint64(nil, u)) }

// several: code with 3 globals, and with functions that begin behind each bar.
func several(src string) code.Code {
	c := code.Code{Strs: texts(), Globals: 3}
	for _, part := range strings.Split(src, "|") {
		c.Funs = append(c.Funs, len(c.Ins))
		c.Ins = append(c.Ins, steps(part)...)
	}
	return c
}

// fine, bad: is the code in order?
func fine(t *testing.T, l ...string) {
	t.Helper()
	for _, src := range l {
		if e := code.Verify(several(src)); e != api.OK {
			t.Errorf("%s: %d", src, e)
		}
	}
}

func bad(t *testing.T, l ...string) {
	t.Helper()
	for _, src := range l {
		if e := code.Verify(several(src)); e != api.ErrForm {
			t.Errorf("%s: %d", src, e)
		}
	}
}

func same(a, b code.Code) bool {
	return slices.Equal(a.Ins, b.Ins) && slices.Equal(a.Strs, b.Strs) && slices.Equal(a.Funs, b.Funs) && a.Globals == b.Globals
}

func copied(c code.Code) code.Code {
	return code.Code{Ins: slices.Clone(c.Ins), Strs: slices.Clone(c.Strs), Funs: slices.Clone(c.Funs), Globals: c.Globals}
}

// isInOrder is the document's table, told once more: each step's states are gathered, with the open brackets as a
// text; a step that has two isn't in order.
func isInOrder(c code.Code) bool {
	if len(c.Funs) < 1 || len(c.Funs) > 4096 || len(c.Ins) < 1 || len(c.Ins) > 65536 || len(c.Strs) > 4096 || c.Globals < 0 || c.Globals > 4096 {
		return false
	}
	counts := map[int]int{}
	for _, i := range c.Ins {
		if i.Op < 0 || i.Op > 28 {
			return false
		}
		_, numbers := op(strings.Split(names[i.Op], ":")[0])
		if !strings.Contains(numbers, "A") && i.A != 0 || !strings.Contains(numbers, "B") && i.B != 0 {
			return false
		}
		if i.Op == code.Close && i.A > 0 && i.A < len(c.Funs) {
			if n, ok := counts[i.A]; ok && n != i.B {
				return false
			}
			counts[i.A] = i.B
		}
	}
	for _, s := range c.Strs {
		if len(s) > 4096 {
			return false
		}
	}
	var todo []at
	for f, place := range c.Funs {
		height := 1
		if f == 0 {
			height = 0
		}
		todo = append(todo, at{place, f, height, ""})
	}
	met := map[int]at{}
	for len(todo) > 0 {
		p := todo[0]
		todo = todo[1:]
		if p.place < 0 || p.place >= len(c.Ins) || p.height > 10000 {
			return false
		}
		if was, ok := met[p.place]; ok {
			if was != p {
				return false
			}
			continue
		}
		met[p.place] = p
		next, ok := oneStep(c, p, counts)
		if !ok {
			return false
		}
		todo = append(todo, next...)
	}
	return true
}

// at is where one is: a step, in a function, a height, the open brackets from the outermost on.
type at struct {
	place, fun, height int
	open               string
}

// oneStep: where it leads.
func oneStep(c code.Code, p at, counts map[int]int) ([]at, bool) {
	i := c.Ins[p.place]
	integer := func() bool { return i.A >= -1<<62 && i.A < 1<<62 }
	text := func() bool { return i.A >= 0 && i.A < len(c.Strs) }
	next, h := p, p.height
	next.place++
	there := next
	ok := true
	switch i.Op {
	case code.Int:
		ok, next.height = integer(), h+1
	case code.Str:
		ok, next.height = text(), h+1
	case code.Float:
		ok, next.height = text() && len(c.Strs[i.A]) == 8, h+1
		if ok {
			u := binary.BigEndian.Uint64([]byte(c.Strs[i.A]))
			ok = u == 0x7FF8000000000000 || !math.IsNaN(math.Float64frombits(u))
		}
	case code.Unit:
		next.height = h + 1
	case code.Local:
		ok, next.height = i.A >= 0 && i.A < h, h+1
	case code.Free:
		ok, next.height = i.A >= 0 && i.A < counts[p.fun], h+1
	case code.Self:
		ok, next.height = p.fun != 0, h+1
	case code.Global:
		ok, next.height = i.A >= 0 && i.A < c.Globals, h+1
	case code.Set:
		ok, next.height = i.A >= 0 && i.A < c.Globals && h >= 1, h-1
	case code.Prim:
		ok, next.height = i.A >= 0 && i.A < 40, h+1
	case code.Con:
		ok, next.height = i.A >= 0 && i.A < 256 && i.B >= 0 && i.B < 9 && i.B <= h, h+1-i.B
	case code.Tup:
		ok, next.height = i.A >= 2 && i.A <= 8 && i.A <= h, h+1-i.A
	case code.Close:
		ok, next.height = i.A > 0 && i.A < len(c.Funs) && i.B >= 0 && i.B <= 200 && i.B <= h, h+1-i.B
	case code.Apply:
		ok, next.height = h >= 2, h-1
	case code.Ret:
		return nil, p.fun != 0 && h == 2 && p.open == ""
	case code.Jump:
		there.place = i.A
		return []at{there}, true
	case code.Unless:
		there.place, there.height, next.height = i.A, h-1, h-1
		return []at{next, there}, h >= 1
	case code.Pop:
		ok, next.height = h >= 1, h-1
	case code.Slide:
		ok, next.height = i.A >= 0 && i.A < h, h-i.A
	case code.Field:
		ok = h >= 1 && i.A >= 0 && i.A < 8
	case code.IsInt, code.IsStr, code.IsCon:
		there.place, there.height, next.height = i.B, h-1, h-1
		ok = i.Op == code.IsInt && integer() || i.Op == code.IsStr && text() || i.Op == code.IsCon && i.A >= 0 && i.A < 256
		return []at{next, there}, ok && h >= 1
	case code.Raise:
		return nil, h >= 1
	case code.Try:
		there.place, there.height = i.A, h+1
		next.open += "try " + strconv.Itoa(i.A) + ";"
		return []at{next, there}, true
	case code.Begin:
		next.open += "begin;"
	case code.EndTry, code.Commit:
		l := strings.Split(p.open, ";")
		if len(l) < 2 {
			return nil, false
		}
		last := l[len(l)-2]
		next.open = strings.TrimSuffix(p.open, last+";")
		ok = (last == "begin") == (i.Op == code.Commit)
	case code.Halt:
		return nil, p.fun == 0 && p.open == ""
	}
	return []at{next}, ok
}

// dice is a row of numbers that look like chance, and are always the same.
type dice uint64

func (d *dice) below(n int) int {
	*d += 0x9E3779B97F4A7C15
	x := uint64(*d)
	x = (x ^ x>>30) * 0xBF58476D1CE4E5B9
	x = (x ^ x>>27) * 0x94D049BB133111EB
	return int((x ^ x>>31) % uint64(n))
}

// some: code of some steps, that is in order now and then.
func (d *dice) some() code.Code {
	c := code.Code{Strs: texts(), Globals: 2, Funs: []int{0}}
	size := 1 + d.below(9)
	for range size {
		c.Ins = append(c.Ins, d.step(size))
	}
	if d.below(2) == 0 {
		c.Ins[size-1] = code.Ins{Op: code.Halt}
	}
	if d.below(2) == 0 {
		c.Funs = append(c.Funs, len(c.Ins))
		for range d.below(5) {
			c.Ins = append(c.Ins, d.step(size+5))
		}
		c.Ins = append(c.Ins, steps([]string{"Local 0, Ret", "Ret", "Raise", "Free 0, Ret"}[d.below(4)])...)
	}
	return c
}

// step: some step; what it names is right more often than not.
func (d *dice) step(size int) code.Ins {
	if d.below(3) == 0 {
		return code.Ins{Op: code.Int, A: d.below(9)}
	}
	i := code.Ins{Op: d.below(29)}
	_, numbers := op(strings.Split(names[i.Op], ":")[0])
	if strings.Contains(numbers, "A") {
		i.A = d.below(3)
	}
	if strings.Contains(numbers, "B") {
		i.B = d.below(3)
	}
	switch i.Op {
	case code.Jump, code.Unless, code.Try:
		i.A = d.below(size + 1)
	case code.IsInt, code.IsStr, code.IsCon:
		i.B = d.below(size + 1)
	case code.Tup:
		i.A = 2
	case code.Float:
		i.A = 1
	}
	if d.below(60) == 0 {
		i.A = d.below(50) - 5
	}
	return i
}

// inOrder: some code that is in order, of a program whose brackets are well nested, and of functions.
func (d *dice) inOrder() code.Code {
	c := code.Code{Strs: texts(), Globals: 3}
	m := maker{d: d, c: &c}
	funs := 1 + d.below(4)
	for f := range funs {
		c.Funs = append(c.Funs, len(c.Ins))
		height := min(f, 1)
		for g := 1; f == 0 && g < funs; g++ {
			for range g - 1 {
				m.add(code.Unit, 0, 0)
			}
			m.add(code.Close, g, g-1)
			height++
		}
		for range 1 + d.below(12) {
			height = m.more(f, funs, height)
		}
		if f == 0 {
			m.add(code.Halt, 0, 0)
			continue
		}
		for ; height < 2; height++ {
			m.add(code.Unit, 0, 0)
		}
		if height > 2 {
			m.add(code.Slide, height-2, 0)
		}
		m.add(code.Ret, 0, 0)
	}
	return c
}

type maker struct {
	d *dice
	c *code.Code
}

func (m maker) add(op, a, b int) int {
	m.c.Ins = append(m.c.Ins, code.Ins{Op: op, A: a, B: b})
	return len(m.c.Ins) - 1
}

// more: some steps more, at a height; it answers the height behind them. Function f is closed with f - 1 values.
func (m maker) more(f, funs, height int) int {
	d := m.d
	if height < 3 || d.below(3) == 0 {
		m.push(f, height)
		return height + 1
	}
	switch d.below(9) {
	case 0:
		m.add([]int{code.Apply, code.Pop}[d.below(2)], 0, 0)
		return height - 1
	case 1:
		n := d.below(height)
		m.add(code.Slide, n, 0)
		return height - n
	case 2:
		m.add(code.Con, d.below(256), 2)
		return height - 1
	case 3:
		m.add(code.Tup, 3, 0)
		return height - 2
	case 4:
		m.add(code.Set, d.below(3), 0)
		return height - 1
	case 5:
		if funs == 1 {
			return height
		}
		g := 1 + d.below(funs-1)
		m.add(code.Close, g, g-1)
		return height + 1 - (g - 1)
	}
	if d.below(3) == 0 {
		m.add(code.Field, d.below(8), 0)
		return height
	}
	m.bracket(f, height)
	return height
}

// push: one value more.
func (m maker) push(f, height int) {
	d := m.d
	switch d.below(8) {
	case 0:
		m.add(code.Int, []int{0, -1, 1<<62 - 1, -1 << 62}[d.below(4)], 0)
	case 1:
		m.add(code.Str, d.below(len(m.c.Strs)), 0)
	case 2:
		m.add(code.Float, 1, 0)
	case 3:
		m.add(code.Global, d.below(3), 0)
	case 4:
		m.add(code.Prim, d.below(40), 0)
	case 5:
		if height > 0 {
			m.add(code.Local, d.below(height), 0)
			return
		}
		m.add(code.Unit, 0, 0)
	case 6:
		if f > 1 {
			m.add(code.Free, d.below(f-1), 0)
			return
		}
		m.add(code.Unit, 0, 0)
	case 7:
		if f > 0 {
			m.add(code.Self, 0, 0)
			return
		}
		m.add(code.Con, 1, 0)
	}
}

// bracket: something with ways of its own, at whose end the height is what it was.
func (m maker) bracket(f, height int) {
	d := m.d
	switch d.below(3) {
	case 0:
		m.add(code.Begin, 0, 0)
		m.push(f, height)
		m.add(code.Pop, 0, 0)
		m.add(code.Commit, 0, 0)
	case 1:
		try := m.add(code.Try, 0, 0)
		m.push(f, height)
		m.add(code.EndTry, 0, 0)
		over := m.add(code.Jump, 0, 0)
		m.c.Ins[try].A = len(m.c.Ins)
		if d.below(3) == 0 {
			m.add(code.Raise, 0, 0)
		}
		m.c.Ins[over].A = len(m.c.Ins)
		m.add(code.Pop, 0, 0)
	case 2:
		m.push(f, height)
		is := m.add([]int{code.IsInt, code.IsStr, code.IsCon}[d.below(3)], d.below(5), 0)
		m.push(f, height)
		over := m.add(code.Jump, 0, 0)
		m.c.Ins[is].B = len(m.c.Ins)
		m.push(f, height)
		m.c.Ins[over].A = len(m.c.Ins)
		m.add(code.Pop, 0, 0)
	}
}
