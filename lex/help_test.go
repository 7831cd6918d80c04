package lex_test

import (
	"regexp"
	"strings"
	"testing"

	"scriptor/api"
	"scriptor/lex"
	"scriptor/num"
)

// pos is a place.
func pos(line, col int) api.Pos { return api.Pos{Line: line, Col: col} }

// same: are two lists of tokens the same?
func same(a, b []lex.Token) bool {
	if len(a) != len(b) {
		return false
	}
	for i := range a {
		if a[i] != b[i] {
			return false
		}
	}
	return true
}

// must: the tokens of a text that has to have some.
func must(t *testing.T, src string) []lex.Token {
	t.Helper()
	l, at, e := lex.Scan(src)
	if e != api.OK || at != (api.Pos{}) {
		t.Fatalf("%q: %d at %v", src, e, at)
	}
	return l
}

// refused: is a text refused at that place, with nothing beside?
func refused(t *testing.T, src string, want api.Pos) {
	t.Helper()
	if l, at, e := lex.Scan(src); e != api.ErrSyntax || at != want || len(l) != 0 {
		t.Errorf("%q: %v, %d at %v, not at %v", src, l, e, at, want)
	}
}

// one: the token that a text is alone, but for its place; false: it is refused at its beginning.
func one(t *testing.T, src string) (lex.Token, bool) {
	t.Helper()
	l, at, e := lex.Scan(src)
	if e == api.ErrSyntax && at == pos(1, 1) && len(l) == 0 {
		return lex.Token{}, false
	}
	if e != api.OK || at != (api.Pos{}) || len(l) != 1 || l[0].At != pos(1, 1) {
		t.Errorf("%q: %v, %d at %v", src, l, e, at)
		return lex.Token{}, false
	}
	l[0].At = api.Pos{}
	return l[0], true
}

// What the chapter says of texts, told a second time.
var (
	blanks  = regexp.MustCompile(`^(?:[ \t\n]|;[^\n]*)+`)
	word    = regexp.MustCompile(`^[^ \t\n;()"]+`)
	integer = regexp.MustCompile(`^-?[0-9]+$`)
	float   = regexp.MustCompile(`^-?[0-9]+\.[0-9]+$`)
	con     = regexp.MustCompile(`^[A-Z][A-Za-z0-9]{0,39}$`)
	name    = regexp.MustCompile(`^[a-z'+*/<>=!?_.\-][A-Za-z0-9'+*/<>=!?_.\-]{0,39}$`)
	piece   = regexp.MustCompile(`^(?:[^\x00-\x1f"\\]|\\["\\n]|\\x[0-9a-f][0-9a-f])`)
)

// place: of the byte of a text from which so many are left.
func place(src string, left int) api.Pos {
	ahead := src[:len(src)-left]
	return pos(1+strings.Count(ahead, "\n"), len(ahead)-strings.LastIndex(ahead, "\n"))
}

// rule: what Scan has to answer, of a text that isn't too long.
func rule(src string) ([]lex.Token, api.Pos, api.Errno) {
	var l []lex.Token
	for rest := src; ; {
		rest = rest[len(blanks.FindString(rest)):]
		if rest == "" {
			return l, api.Pos{}, api.OK
		}
		token, length, wrong := ruleToken(rest)
		if wrong >= 0 {
			return nil, place(src, len(rest)-wrong), api.ErrSyntax
		}
		token.At = place(src, len(rest))
		l, rest = append(l, token), rest[length:]
	}
}

// ruleToken: the first token, but for its place, and its length; or which byte is wrong.
func ruleToken(rest string) (lex.Token, int, int) {
	switch rest[0] {
	case '(':
		return lex.Token{Kind: lex.Open}, 1, -1
	case ')':
		return lex.Token{Kind: lex.Close}, 1, -1
	case '"':
		return ruleString(rest)
	}
	w := word.FindString(rest)
	n, intError := num.Read(w)
	x, floatError := num.ReadFloat(w)
	switch {
	case integer.MatchString(w):
		if intError != api.OK {
			return lex.Token{}, 0, 0
		}
		return lex.Token{Kind: lex.Int, Num: n}, len(w), -1
	case float.MatchString(w) && floatError == api.OK:
		return lex.Token{Kind: lex.Float, Text: floatBytes(x)}, len(w), -1
	case con.MatchString(w):
		return lex.Token{Kind: lex.Con, Text: w}, len(w), -1
	case name.MatchString(w):
		return lex.Token{Kind: lex.Name, Text: w}, len(w), -1
	}
	return lex.Token{}, 0, 0
}

func ruleString(rest string) (lex.Token, int, int) {
	said := ""
	for i := 1; i < len(rest); {
		if rest[i] == '"' {
			if len(said) > api.MaxStr {
				return lex.Token{}, 0, 0
			}
			return lex.Token{Kind: lex.Str, Text: said}, i + 1, -1
		}
		p := piece.FindString(rest[i:])
		switch {
		case p == "" && rest[i] != '\\':
			return lex.Token{}, 0, i
		case p == "" && i+1 < len(rest):
			return lex.Token{}, 0, i + 1
		case p == "":
			return lex.Token{}, 0, 0
		}
		said += saidBy(p)
		i += len(p)
	}
	return lex.Token{}, 0, 0
}

// saidBy: what a piece of a string says.
func saidBy(p string) string {
	const digits = "0123456789abcdef"
	switch {
	case p == `\n`:
		return "\n"
	case len(p) == 4 && p[0] == '\\':
		return string([]byte{byte(strings.IndexByte(digits, p[2])*16 + strings.IndexByte(digits, p[3]))})
	case p[0] == '\\':
		return p[1:]
	}
	return p
}

func floatBytes(x num.Float) string {
	b := make([]byte, 8)
	for i := range b {
		b[i] = byte(x >> (56 - 8*i))
	}
	return string(b)
}

// dice is a row of numbers that look like chance, and are always the same.
type dice uint64

func (d *dice) below(n int) int {
	*d += 0x9E3779B97F4A7C15
	x := uint64(*d)
	x = (x ^ x>>30) * 0xBF58476D1CE4E5B9
	x = (x ^ x>>27) * 0x94D049BB133111EB
	return int((x ^ x>>31) % uint64(n))
}

func pick[T any](d *dice, l ...T) T { return l[d.below(len(l))] }
