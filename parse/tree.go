package parse

import (
	"scriptor/api"
	"scriptor/lex"
)

// tree is a token that is no bracket; or one that opens, and the trees up to the one that closes it.
type tree struct {
	lex.Token
	trees []tree
}

// grow: tokens as trees.
func grow(tokens []lex.Token) []tree {
	// What is open, each within the one ahead; the first one is the program itself.
	open := []tree{{}}
	for _, token := range tokens {
		depth := len(open) - 1
		switch token.Kind {
		case lex.Open:
			if depth == api.MaxDepth {
				panic(wrong{token.At})
			}
			open = append(open, tree{Token: token})
		case lex.Close:
			if depth == 0 {
				panic(wrong{token.At})
			}
			open[depth-1].trees = append(open[depth-1].trees, open[depth])
			open = open[:depth]
		default:
			open[depth].trees = append(open[depth].trees, tree{Token: token})
		}
	}
	if len(open) > 1 {
		panic(wrong{open[1].At})
	}
	return open[0].trees
}

// need: throws the tree's place, if what it needs isn't so.
func (t tree) need(ok bool) {
	if !ok {
		panic(wrong{t.At})
	}
}

// node: one that is made of the tree.
func (t tree) node(op int, text string, kids []Node) Node {
	return Node{Op: op, At: t.At, Text: text, Kids: kids}
}

func (t tree) isBracket() bool { return t.Kind == lex.Open }

// word: the Name with which a bracket begins; empty: it begins otherwise, or is none.
func (t tree) word() string {
	if len(t.trees) > 0 && t.trees[0].Kind == lex.Name {
		return t.trees[0].Text
	}
	return ""
}

func (t tree) beginsWithCon() bool { return len(t.trees) > 0 && t.trees[0].Kind == lex.Con }

// behindFirst: a bracket's trees, but for the first one.
func (t tree) behindFirst() []tree {
	if len(t.trees) == 0 {
		return nil
	}
	return t.trees[1:]
}

// isFn: a bracket that begins as a function; whether it is one comes later.
func (t tree) isFn() bool { return t.word() == "fn" }

// isOf: a bracket of so many trees, all of which are so?
func (t tree) isOf(least, most int, isSo func(tree) bool) bool {
	for _, part := range t.trees {
		if !isSo(part) {
			return false
		}
	}
	return t.isBracket() && isCount(t.trees, least, most)
}

func isCount(l []tree, least, most int) bool { return least <= len(l) && len(l) <= most }

// isTuple: as many as a tuple has?
func isTuple(l []tree) bool { return isCount(l, 2, api.MaxArgs) }

func (t tree) isAny() bool { return t.Kind == lex.Name && t.Text == "_" }

func (t tree) isVariable() bool {
	return t.Kind == lex.Name && !isKept(t.Text) && !t.isAny() && t.Text[0] != '\''
}

func (t tree) isVariableOrAny() bool { return t.isVariable() || t.isAny() }

func (t tree) isTypeName() bool {
	return t.isVariable() && t.Text != "->" && t.Text != "ref" && t.Text != "pref"
}

func (t tree) isTypeVar() bool {
	return t.Kind == lex.Name && len(t.Text) >= 2 && t.Text[0] == '\''
}

// isKept: a name that stands for no value?
func isKept(name string) bool {
	switch name {
	case "fn", "let", "rec", "if", "seq", "tuple", "case", "try", "raise", "transact", "data", "root", "def", "do":
		return true
	}
	return false
}
