package parse

import (
	"scriptor/api"
	"scriptor/lex"
)

// expression: what stands for a value.
func expression(t tree) Node {
	switch t.Kind {
	case lex.Int:
		return Node{Op: Int, At: t.At, Num: t.Num}
	case lex.Float:
		return t.node(Float, t.Text, nil)
	case lex.Str:
		return t.node(Str, t.Text, nil)
	case lex.Con:
		return t.node(Con, t.Text, nil)
	case lex.Name:
		t.need(t.isVariable())
		return t.node(Var, t.Text, nil)
	}
	parts := t.behindFirst()
	switch {
	case len(t.trees) == 0:
		return t.node(Unit, "", nil)
	case t.beginsWithCon():
		t.need(isCount(parts, 1, api.MaxArgs))
		return t.node(Con, t.trees[0].Text, each(expression, parts))
	case isKept(t.word()):
		return form(t, parts)
	}
	t.need(isCount(parts, 1, api.MaxArgs))
	return t.node(App, "", each(expression, t.trees))
}

// form: an expression that a kept word begins; parts stand behind the word.
func form(t tree, parts []tree) Node {
	switch t.word() {
	case "fn":
		t.need(len(parts) == 2 && parts[0].isOf(1, api.MaxArgs, tree.isVariableOrAny))
		return t.node(Fn, "", append(each(parameter, parts[0].trees), expression(parts[1])))
	case "let":
		t.need(len(parts) == 3 && parts[0].isVariableOrAny())
		return t.node(Let, parts[0].Text, each(expression, parts[1:]))
	case "rec":
		t.need(len(parts) == 3 && parts[0].isVariable() && parts[1].isFn())
		return t.node(Rec, parts[0].Text, each(expression, parts[1:]))
	case "if":
		t.need(len(parts) == 3)
		return t.node(If, "", each(expression, parts))
	case "seq":
		t.need(len(parts) >= 1)
		return t.node(Seq, "", each(expression, parts))
	case "tuple":
		t.need(isTuple(parts))
		return t.node(Tup, "", each(expression, parts))
	case "case":
		return choice(Case, t, parts)
	case "try":
		return choice(Try, t, parts)
	case "raise":
		t.need(len(parts) == 1)
		return t.node(Raise, "", each(expression, parts))
	case "transact":
		t.need(len(parts) == 1)
		return t.node(Trans, "", each(expression, parts))
	}
	// The other kept words begin no expression.
	panic(wrong{t.At})
}

// choice: an expression, and arms.
func choice(op int, t tree, parts []tree) Node {
	t.need(len(parts) >= 2)
	return t.node(op, "", append(each(expression, parts[:1]), each(arm, parts[1:])...))
}

// arm: a pattern, and what is done if it fits.
func arm(t tree) Node {
	t.need(t.isBracket() && len(t.trees) == 2)
	p := pattern(t.trees[0])
	t.trees[0].need(!bindsTwice(p, map[string]struct{}{}))
	return t.node(Arm, "", []Node{p, expression(t.trees[1])})
}

// bindsTwice: does a variable stand in it twice, or is it one of those that were seen ahead?
func bindsTwice(p Node, seen map[string]struct{}) bool {
	if p.Op == PVar {
		_, twice := seen[p.Text]
		seen[p.Text] = struct{}{}
		return twice
	}
	for _, kid := range p.Kids {
		if bindsTwice(kid, seen) {
			return true
		}
	}
	return false
}

// parameter: a variable, or none.
func parameter(t tree) Node {
	if t.isAny() {
		return t.node(PAny, "", nil)
	}
	return t.node(PVar, t.Text, nil)
}

// pattern: what a value may look like.
func pattern(t tree) Node {
	switch t.Kind {
	case lex.Int:
		return Node{Op: PInt, At: t.At, Num: t.Num}
	case lex.Str:
		return t.node(PStr, t.Text, nil)
	case lex.Con:
		return t.node(PCon, t.Text, nil)
	case lex.Name:
		t.need(t.isVariableOrAny())
		return parameter(t)
	}
	parts := t.behindFirst()
	switch {
	case t.isBracket() && len(t.trees) == 0:
		return t.node(PUnit, "", nil)
	case t.beginsWithCon() && isCount(parts, 1, api.MaxArgs):
		return t.node(PCon, t.trees[0].Text, each(pattern, parts))
	case t.word() == "tuple" && isTuple(parts):
		return t.node(PTup, "", each(pattern, parts))
	}
	panic(wrong{t.At})
}
