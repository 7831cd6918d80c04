package parse

import (
	"strconv"
	"strings"

	"scriptor/api"
	"scriptor/num"
)

// Show: nodes, as a text.
func Show(l ...Node) string {
	var w writer
	for _, n := range l {
		w.node(n)
		w.line()
	}
	return w.text.String()
}

// writer writes trees.
type writer struct {
	text   strings.Builder
	depth  int  // how many brackets are open
	behind bool // does what comes stand behind a tree, in one bracket with it?
}

// word: a tree that is no bracket.
func (w *writer) word(s string) {
	w.blank()
	w.text.WriteString(s)
	w.behind = true
}

func (w *writer) open() {
	w.blank()
	w.text.WriteByte('(')
	w.depth++
	w.behind = false
}

func (w *writer) close() {
	w.text.WriteByte(')')
	w.depth--
	w.behind = true
}

func (w *writer) blank() {
	if w.behind {
		w.text.WriteByte(' ')
	}
}

func (w *writer) line() {
	w.text.WriteByte('\n')
	w.behind = false
}

func (w *writer) node(n Node) {
	switch n.Op {
	case Int, PInt:
		w.word(num.Text(n.Num))
	case Float:
		w.word(floatText(n.Text))
	case Str, PStr:
		w.word(quote(n.Text))
	case Unit, PUnit:
		w.word("()")
	case PAny:
		w.word("_")
	case Var, PVar, TVar:
		w.word(n.Text)
	case TName:
		// Nested, a long row of arrows is deeper than Program reads: then it is one bracket.
		w.typeNode(n, w.depth+depthOf(n) > api.MaxDepth)
	case Con, PCon:
		if len(n.Kids) == 0 {
			w.word(n.Text)
			return
		}
		w.bracket(n)
	case Fn:
		w.function(n)
	case Data:
		w.data(n)
	default:
		w.bracket(n)
	}
}

// bracket: words, and the node's parts behind them.
func (w *writer) bracket(n Node) {
	w.open()
	for _, s := range wordsOf(n) {
		w.word(s)
	}
	w.nodes(n.Kids)
	w.close()
}

// wordsOf: with what a node's bracket begins.
func wordsOf(n Node) []string {
	switch n.Op {
	case Con, PCon, DCon:
		return []string{n.Text}
	case Let:
		return []string{"let", n.Text}
	case Rec, DefRec:
		return []string{"rec", n.Text}
	case If:
		return []string{"if"}
	case Seq:
		return []string{"seq"}
	case Tup, PTup:
		return []string{"tuple"}
	case Case:
		return []string{"case"}
	case Try:
		return []string{"try"}
	case Raise:
		return []string{"raise"}
	case Trans:
		return []string{"transact"}
	case Root:
		return []string{"root", n.Text}
	case Def:
		return []string{"def", n.Text}
	case Do:
		return []string{"do"}
	}
	// An App and an Arm are their parts alone.
	return nil
}

func (w *writer) nodes(l []Node) {
	for _, n := range l {
		w.node(n)
	}
}

func (w *writer) function(n Node) {
	params := max(0, len(n.Kids)-1)
	w.open()
	w.word("fn")
	w.open()
	w.nodes(n.Kids[:params])
	w.close()
	w.nodes(n.Kids[params:])
	w.close()
}

func (w *writer) data(n Node) {
	vars := 0
	for vars < len(n.Kids) && n.Kids[vars].Op == TVar {
		vars++
	}
	w.open()
	w.word("data")
	w.word(n.Text)
	w.open()
	w.nodes(n.Kids[:vars])
	w.close()
	w.nodes(n.Kids[vars:])
	w.close()
}

// typeNode: a type; flat: rows of arrows as one bracket each.
func (w *writer) typeNode(n Node, flat bool) {
	if len(n.Kids) == 0 {
		w.word(n.Text)
		return
	}
	w.open()
	w.word(n.Text)
	for flat && isArrow(n) && isArrow(n.Kids[1]) {
		w.typeNode(n.Kids[0], flat)
		n = n.Kids[1]
	}
	for _, kid := range n.Kids {
		w.typeNode(kid, flat)
	}
	w.close()
}

func isArrow(n Node) bool { return n.Op == TName && n.Text == "->" && len(n.Kids) == 2 }

// depthOf: how deep the brackets of a type are, nested.
func depthOf(n Node) int {
	deepest := 0
	for _, kid := range n.Kids {
		deepest = max(deepest, depthOf(kid))
	}
	if len(n.Kids) == 0 {
		return 0
	}
	return deepest + 1
}

// floatText: digits that num.ReadFloat reads as the float with these bytes. The fewest that tell it from all
// others are never more than those from which it was read.
func floatText(bytes string) string {
	var x num.Float
	for i := range len(bytes) {
		x = x<<8 | num.Float(bytes[i])
	}
	s := strconv.FormatFloat(x.Go(), 'f', -1, 64)
	if !strings.Contains(s, ".") {
		return s + ".0"
	}
	return s
}

// quote: a string that says s.
func quote(s string) string {
	const hex = "0123456789abcdef"
	b := []byte{'"'}
	for i := range len(s) {
		switch c := s[i]; {
		case c == '"' || c == '\\':
			b = append(b, '\\', c)
		case c == '\n':
			b = append(b, '\\', 'n')
		case c < ' ' || c > '~':
			b = append(b, '\\', 'x', hex[c>>4], hex[c&15])
		default:
			b = append(b, c)
		}
	}
	return string(append(b, '"'))
}
