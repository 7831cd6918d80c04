package parse_test

import (
	"strconv"
	"strings"

	"scriptor/api"
	"scriptor/num"
	"scriptor/parse"
)

// Trees that aren't what should stand where they stand: by what they begin with, how many trees they have, or the
// names among these. What is wrong further inside comes behind, so it is told by the place of the whole.
var (
	wrongDefinitions = []string{
		"x", "1", `"do"`, "Nil", "do", "()", "(f 1)", "(1)", "((do 1))", `("do" 1)`, "(Do 1)", "(fn (x) x)", "(let x 1 2)", "(seq 1)", "(() 1)",
		"(data)", "(data t)", "(data t ())", "(data T () (A))", "(data -> () (A))", "(data ref () (A))", "(data pref () (A))", "(data tuple () (A))",
		"(data _ () (A))", "(data 't () (A))", "(data fn () (A))", `(data "t" () (A))`, "(data t 'a (A))", "(data t Nil (A))", "(data t (a) (A))", "(data t (') (A))",
		"(data t ('a 1) (A))", "(data t ('a ('b)) (A))", "(data t ('a 'b 'c 'd 'e 'f 'g 'h 'i) (A))", `(data t ("'a") (A))`, "(data 1 2 3)", "(data (t) () (A))",
		"(root)", "(root r int)", "(root r int 1 2)", "(root _ int 1)", "(root R int 1)", "(root 'r int 1)", "(root do int 1)", "(root 1 int 1)", "(root (r) int 1)",
		"(def)", "(def x)", "(def x 1 2)", "(def _ 1)", "(def X 1)", "(def ' 1)", "(def case 1)", "(def (x) 1)", `(def "x" 1)`,
		"(rec)", "(rec f)", "(rec f 1)", "(rec f ())", "(rec f (x))", "(rec f fn)", `(rec f ("fn" (x) x))`, "(rec f (fn (x) x) 1)", "(rec _ (fn (x) x))", "(rec F (fn (x) x))",
		"(rec f ((fn (x) x)))", "(do)", "(do 1 2)",
	}
	wrongConstructors = []string{
		"nil", "Nil", "1", "'a", `"A"`, "()", "(nil)", "(1)", "((A) int)", `("A" int)`, "(_)", "('a)", "(-> A int)", "(A int int int int int int int int int)",
	}
	wrongTypes = []string{
		"1", "1.5", `"s"`, "()", "_", "'", "->", "ref", "pref", "tuple", "fn", "do", "Nil", "(int)", "((list int))", "(1 int)", `("list" int)`, "(Nil int)", "(_ int)",
		"('a int)", "((list int) int)", "(->)", "(-> int)", "(tuple)", "(tuple int)", "(tuple a b c d e f g h i)", "(ref)", "(ref int int)", "(pref)", "(pref int int)",
		"(list a b c d e f g h i)", "(fn (x) x)", "(do 1)",
	}
	wrongFunctions = []string{
		"(fn)", "(fn (x))", "(fn (x) x x)", "(fn x x)", "(fn () x)", "(fn 1 x)", `(fn "x" x)`, "(fn (1) x)", "(fn (x fn) x)", "(fn (X) x)", "(fn (x 'a) x)", "(fn ((x)) x)",
		"(fn (()) x)", "(fn (a b c d e f g h i) a)", "(fn Nil x)", "(fn (Cons x) x)", `(fn ("x") x)`, "(fn (1.5) x)",
	}
	wrongExpressions = append([]string{
		"_", "'", "'a", "fn", "let", "rec", "if", "seq", "tuple", "case", "try", "raise", "transact", "data", "root", "def", "do",
		"(f)", "(1)", `("f")`, "(())", "((f 1))", "(f 1 2 3 4 5 6 7 8 9)", "(Nil)", "(Nil 1 2 3 4 5 6 7 8 9)", "(1 2 3 4 5 6 7 8 9 0)",
		"(let)", "(let x 1)", "(let x 1 2 3)", "(let X 1 2)", "(let 1 2 3)", "(let 'a 1 2)", "(let fn 1 2)", "(let (x) 1 2)", `(let "x" 1 2)`, "(let ((x 1)) x)",
		"(rec)", "(rec f (fn (x) x))", "(rec f (fn (x) x) 1 2)", "(rec f 1 2)", "(rec f fn 2)", "(rec f (x) 2)", "(rec f () 2)", "(rec _ (fn (x) x) 1)", "(rec F (fn (x) x) 1)", "(rec let (fn (x) x) 1)",
		"(if)", "(if 1 2)", "(if 1 2 3 4)", "(seq)", "(tuple)", "(tuple 1)", "(tuple 1 2 3 4 5 6 7 8 9)", "(case)", "(case 1)", "(try)", "(try 1)",
		"(raise)", "(raise 1 2)", "(transact)", "(transact 1 2)", "(data t () (A))", "(root r int 1)", "(def x 1)", "(do 1)", "(do)",
	}, wrongFunctions...)
	wrongArms     = []string{"x", "1", "Nil", `"s"`, "()", "(x)", "(x 1 2)", "((x 1))", "(1 2 3)", "fn", "_", "'a"}
	wrongPatterns = []string{
		"1.5", "'", "'a", "fn", "tuple", "do", "(x)", "(x 1)", "(_ _)", "(1 2)", "(())", `("s")`, "(Nil)", "(Nil a b c d e f g h i)", "((Nil x))", "((Nil) x)",
		"(tuple)", "(tuple a)", "(tuple a b c d e f g h i)", "(fn (x) x)", "(let x 1 2)", "('a b)", "(-> a b)", `("Nil" a)`,
	}
)

// maker makes up programs: a text, and the nodes that it has to be; and, if it is told to, trees that aren't what
// should stand where they stand, and the place of the one that is met first.
type maker struct {
	dice   dice
	text   strings.Builder
	at     api.Pos
	faults int     // of so many trees one is wrong; 0: none
	wrong  api.Pos // the first of them
}

func newMaker(seed, faults int) *maker {
	return &maker{dice: dice(seed), at: pos(1, 1), faults: faults}
}

func (m *maker) write(s string) {
	for i := range len(s) {
		m.at.Col++
		if s[i] == '\n' {
			m.at = pos(m.at.Line+1, 1)
		}
	}
	m.text.WriteString(s)
}

// token: writes one, behind blanks; its place.
func (m *maker) token(s string) api.Pos {
	m.write(pick(&m.dice, " ", " ", " ", "  ", "\n", "\t", " ;c(\n"))
	at := m.at
	m.write(s)
	return at
}

func (m *maker) open(words ...string) api.Pos {
	at := m.token("(")
	for _, s := range words {
		m.token(s)
	}
	return at
}

func (m *maker) close() { m.token(")") }

// fail: is it the turn of a wrong tree? Then it is one of these.
func (m *maker) fail(trees ...string) bool {
	if m.faults == 0 || m.dice.below(m.faults) > 0 {
		return false
	}
	at := m.token(pick(&m.dice, trees...))
	m.note(at)
	return true
}

func (m *maker) note(at api.Pos) {
	if m.wrong == (api.Pos{}) {
		m.wrong = at
	}
}

// several: so many nodes, one behind the other.
func several(n int, node func() parse.Node) []parse.Node {
	var l []parse.Node
	for range n {
		l = append(l, node())
	}
	return l
}

func (m *maker) variable() string {
	return pick(&m.dice, "x", "y", "f", "loop", "+", "->", "ref", "pref", "a'", "-x", "f<", "fnx", "o", "-12345678.12345678")
}

func (m *maker) typeName() string {
	return pick(&m.dice, "int", "string", "list", "t", "exn", "a'b", "--", "tuples")
}

func (m *maker) typeVar() string { return pick(&m.dice, "'a", "'b", "'x1", "''", "'->") }

func (m *maker) con() string { return pick(&m.dice, "Nil", "Cons", "A", "B2", "Fail") }

func (m *maker) number() int {
	return pick(&m.dice, 0, 1, -1, 42, num.Most, num.Least, m.dice.below(1000000)-500000)
}

// str: a string as it is written, and what it says.
func (m *maker) str() (string, string) {
	written, said := "", ""
	for range m.dice.below(5) {
		c := pick(&m.dice, m.dice.below(256), '"', '\\', '\n', 'x', '0', ' ', 0, 126, 127, 128, 255)
		b := string([]byte{byte(c)})
		said += b
		switch {
		case c == '"' || c == '\\':
			written += `\` + b
		case c == '\n' && m.dice.below(2) == 0:
			written += `\n`
		case c < 32 || m.dice.below(4) == 0:
			written += `\x` + strconv.FormatInt(int64(256+c), 16)[1:]
		default:
			written += b
		}
	}
	return `"` + written + `"`, said
}

// float: one as it is written, and its bytes.
func (m *maker) float() (string, string) {
	digits := 2 + m.dice.below(14)
	s := ""
	for range digits {
		s += pick(&m.dice, "0", "0", strconv.Itoa(m.dice.below(10)), "9")
	}
	point := 1 + m.dice.below(digits-1)
	s = pick(&m.dice, "", "-") + s[:point] + "." + s[point:]
	f, _ := strconv.ParseFloat(s, 64)
	bytes := ""
	for x, i := num.Of(f), 0; i < 8; i++ {
		bytes += string([]byte{byte(x >> (56 - 8*i))})
	}
	return s, bytes
}

func (m *maker) definition() parse.Node {
	if m.fail(wrongDefinitions...) {
		return parse.Node{}
	}
	x := m.variable()
	var n parse.Node
	switch m.dice.below(5) {
	case 0:
		return m.data()
	case 1:
		n = parse.Node{Op: parse.Root, At: m.open("root", x), Text: x, Kids: []parse.Node{m.typeNode(3), m.expression(4)}}
	case 2:
		n = parse.Node{Op: parse.Def, At: m.open("def", x), Text: x, Kids: []parse.Node{m.expression(5)}}
	case 3:
		n = parse.Node{Op: parse.DefRec, At: m.open("rec", x), Text: x, Kids: []parse.Node{m.function(4)}}
	default:
		n = parse.Node{Op: parse.Do, At: m.open("do"), Kids: []parse.Node{m.expression(5)}}
	}
	m.close()
	return n
}

func (m *maker) data() parse.Node {
	name := m.typeName()
	n := parse.Node{Op: parse.Data, At: m.open("data", name, "("), Text: name}
	for range pick(&m.dice, 0, 1, 2, 8) {
		v := m.typeVar()
		n.Kids = append(n.Kids, parse.Node{Op: parse.TVar, At: m.token(v), Text: v})
	}
	m.close()
	n.Kids = append(n.Kids, several(pick(&m.dice, 1, 2, 5), m.constructor)...)
	m.close()
	return n
}

func (m *maker) constructor() parse.Node {
	if m.fail(wrongConstructors...) {
		return parse.Node{}
	}
	name := m.con()
	n := parse.Node{Op: parse.DCon, At: m.open(name), Text: name}
	n.Kids = several(pick(&m.dice, 0, 1, 2, 8), func() parse.Node { return m.typeNode(2) })
	m.close()
	return n
}

func (m *maker) typeNode(depth int) parse.Node {
	if m.fail(wrongTypes...) {
		return parse.Node{}
	}
	kid := func() parse.Node { return m.typeNode(depth - 1) }
	n := parse.Node{Op: parse.TName}
	kind := m.dice.below(6)
	if depth == 0 {
		kind %= 2
	}
	switch kind {
	case 0:
		v := m.typeVar()
		return parse.Node{Op: parse.TVar, At: m.token(v), Text: v}
	case 1:
		s := m.typeName()
		return parse.Node{Op: parse.TName, At: m.token(s), Text: s}
	case 2:
		n.Text = m.typeName()
		n.At = m.open(n.Text)
		n.Kids = several(pick(&m.dice, 1, 2, 8), kid)
	case 3:
		n.Text = "tuple"
		n.At = m.open(n.Text)
		n.Kids = several(pick(&m.dice, 2, 3, 8), kid)
	case 4:
		n.Text = pick(&m.dice, "ref", "pref")
		n.At = m.open(n.Text)
		n.Kids = several(1, kid)
	default:
		at := m.open("->")
		l := several(pick(&m.dice, 2, 3, 4, 10), kid)
		n = l[len(l)-1]
		for i := len(l) - 2; i >= 0; i-- {
			n = parse.Node{Op: parse.TName, At: at, Text: "->", Kids: []parse.Node{l[i], n}}
		}
	}
	m.close()
	return n
}

func (m *maker) function(depth int) parse.Node {
	// A wrong one that begins as a function doesn't spoil the (rec ..) around it.
	if m.fail(wrongFunctions...) {
		return parse.Node{}
	}
	n := parse.Node{Op: parse.Fn, At: m.open("fn", "(")}
	for range pick(&m.dice, 1, 2, 8) {
		if m.dice.below(4) == 0 {
			n.Kids = append(n.Kids, parse.Node{Op: parse.PAny, At: m.token("_")})
			continue
		}
		x := m.variable()
		n.Kids = append(n.Kids, parse.Node{Op: parse.PVar, At: m.token(x), Text: x})
	}
	m.close()
	n.Kids = append(n.Kids, m.expression(depth-1))
	m.close()
	return n
}

func (m *maker) expression(depth int) parse.Node {
	if m.fail(wrongExpressions...) {
		return parse.Node{}
	}
	if depth <= 0 || m.dice.below(4) == 0 {
		return m.smallExpression()
	}
	return m.bigExpression(depth)
}

func (m *maker) smallExpression() parse.Node {
	switch m.dice.below(6) {
	case 0:
		k := m.number()
		return parse.Node{Op: parse.Int, At: m.token(num.Text(k)), Num: k}
	case 1:
		written, bytes := m.float()
		return parse.Node{Op: parse.Float, At: m.token(written), Text: bytes}
	case 2:
		written, said := m.str()
		return parse.Node{Op: parse.Str, At: m.token(written), Text: said}
	case 3:
		n := parse.Node{Op: parse.Unit, At: m.open()}
		m.close()
		return n
	case 4:
		x := m.variable()
		return parse.Node{Op: parse.Var, At: m.token(x), Text: x}
	default:
		x := m.con()
		return parse.Node{Op: parse.Con, At: m.token(x), Text: x}
	}
}

func (m *maker) bigExpression(depth int) parse.Node {
	kid := func() parse.Node { return m.expression(depth - 1) }
	n := parse.Node{Text: m.variable()}
	switch n.Op = pick(&m.dice, parse.Con, parse.Fn, parse.App, parse.Let, parse.Rec, parse.If, parse.Seq, parse.Tup, parse.Case, parse.Try, parse.Raise, parse.Trans); n.Op {
	case parse.Con:
		n.Text = m.con()
		n.At = m.open(n.Text)
		n.Kids = several(pick(&m.dice, 1, 2, 8), kid)
	case parse.Fn:
		return m.function(depth)
	case parse.App:
		n.Text = ""
		n.At = m.open()
		n.Kids = append(n.Kids, m.called(depth-1))
		n.Kids = append(n.Kids, several(pick(&m.dice, 1, 2, 8), kid)...)
	case parse.Let:
		n.Text = pick(&m.dice, "_", n.Text)
		n.At = m.open("let", n.Text)
		n.Kids = several(2, kid)
	case parse.Rec:
		n.At = m.open("rec", n.Text)
		n.Kids = []parse.Node{m.function(depth - 1), kid()}
	default:
		n.Text = ""
		m.plainExpression(&n, kid)
	}
	m.close()
	return n
}

// called: what stands first in an App: no kept word, and no Con.
func (m *maker) called(depth int) parse.Node {
	if m.fail("_", "'a", "'", "(Nil)", "(f)", "(fn)", "(_)", "(let x 1)") {
		return parse.Node{}
	}
	switch {
	case depth > 0 && m.dice.below(3) == 0:
		return m.bigExpression(depth)
	case m.dice.below(4) == 0:
		k := m.number()
		return parse.Node{Op: parse.Int, At: m.token(num.Text(k)), Num: k}
	}
	x := m.variable()
	return parse.Node{Op: parse.Var, At: m.token(x), Text: x}
}

// plainExpression: those that are a word and trees.
func (m *maker) plainExpression(n *parse.Node, kid func() parse.Node) {
	switch n.Op {
	case parse.If:
		n.At = m.open("if")
		n.Kids = several(3, kid)
	case parse.Seq:
		n.At = m.open("seq")
		n.Kids = several(pick(&m.dice, 1, 2, 12), kid)
	case parse.Tup:
		n.At = m.open("tuple")
		n.Kids = several(pick(&m.dice, 2, 3, 8), kid)
	case parse.Raise:
		n.At = m.open("raise")
		n.Kids = several(1, kid)
	case parse.Trans:
		n.At = m.open("transact")
		n.Kids = several(1, kid)
	case parse.Case, parse.Try:
		n.At = m.open(map[int]string{parse.Case: "case", parse.Try: "try"}[n.Op])
		n.Kids = []parse.Node{kid()}
		n.Kids = append(n.Kids, several(pick(&m.dice, 1, 2, 10), func() parse.Node { return m.arm(kid) })...)
	}
}

func (m *maker) arm(kid func() parse.Node) parse.Node {
	if m.fail(wrongArms...) {
		return parse.Node{}
	}
	n := parse.Node{Op: parse.Arm, At: m.open()}
	names := 0
	if m.faults > 0 && m.dice.below(m.faults) == 0 {
		m.twins(&names)
	} else {
		n.Kids = append(n.Kids, m.pattern(3, &names))
	}
	n.Kids = append(n.Kids, kid())
	m.close()
	return n
}

// twins: a pattern in which a variable stands twice: that is told when all of it is a pattern.
func (m *maker) twins(names *int) {
	at := m.open("tuple", "twin")
	m.pattern(2, names)
	m.open("Cons", "twin")
	m.close()
	m.close()
	m.note(at)
}

// pattern: one in which no variable stands twice.
func (m *maker) pattern(depth int, names *int) parse.Node {
	if m.fail(wrongPatterns...) {
		return parse.Node{}
	}
	kid := func() parse.Node { return m.pattern(depth-1, names) }
	kind := m.dice.below(8)
	if depth == 0 {
		kind %= 6
	}
	switch kind {
	case 0:
		return parse.Node{Op: parse.PAny, At: m.token("_")}
	case 1:
		*names++
		x := "v" + strconv.Itoa(*names)
		return parse.Node{Op: parse.PVar, At: m.token(x), Text: x}
	case 2:
		k := m.number()
		return parse.Node{Op: parse.PInt, At: m.token(num.Text(k)), Num: k}
	case 3:
		written, said := m.str()
		return parse.Node{Op: parse.PStr, At: m.token(written), Text: said}
	case 4:
		n := parse.Node{Op: parse.PUnit, At: m.open()}
		m.close()
		return n
	case 5:
		x := m.con()
		return parse.Node{Op: parse.PCon, At: m.token(x), Text: x}
	}
	n := parse.Node{Op: parse.PTup}
	if kind == 6 {
		n.Op, n.Text = parse.PCon, m.con()
		n.At = m.open(n.Text)
		n.Kids = several(pick(&m.dice, 1, 2, 8), kid)
	} else {
		n.At = m.open("tuple")
		n.Kids = several(pick(&m.dice, 2, 3, 8), kid)
	}
	m.close()
	return n
}
