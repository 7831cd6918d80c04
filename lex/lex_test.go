package lex_test

import (
	"strings"
	"testing"

	"scriptor/api"
	"scriptor/lex"
	"scriptor/num"
)

// P10.1: each kind of token, with its place, and with what is its alone.
func TestTokens(t *testing.T) {
	got := must(t, "(a -1 \"x\\n\")\n\t; ( \"\n   Nil 1.5)\n(-0.5;c(\"\n007)")
	want := []lex.Token{
		{Kind: lex.Open, At: pos(1, 1)},
		{Kind: lex.Name, At: pos(1, 2), Text: "a"},
		{Kind: lex.Int, At: pos(1, 4), Num: -1},
		{Kind: lex.Str, At: pos(1, 7), Text: "x\n"},
		{Kind: lex.Close, At: pos(1, 12)},
		{Kind: lex.Con, At: pos(3, 4), Text: "Nil"},
		{Kind: lex.Float, At: pos(3, 8), Text: "\x3f\xf8\x00\x00\x00\x00\x00\x00"},
		{Kind: lex.Close, At: pos(3, 11)},
		{Kind: lex.Open, At: pos(4, 1)},
		{Kind: lex.Float, At: pos(4, 2), Text: "\xbf\xe0\x00\x00\x00\x00\x00\x00"},
		{Kind: lex.Int, At: pos(5, 1), Num: 7},
		{Kind: lex.Close, At: pos(5, 4)},
	}
	if !same(got, want) {
		t.Error(got)
	}
	if l := must(t, ""); len(l) != 0 {
		t.Error(l)
	}
}

// P10.1: what a word is.
func TestWords(t *testing.T) {
	for s, n := range map[string]int{
		"0": 0, "-0": 0, "12": 12, "-12": -12, "0012": 12, "-0012": -12, "4611686018427387903": num.Most, "-4611686018427387904": num.Least,
		strings.Repeat("0", 100) + "5": 5, "-" + strings.Repeat("0", 100) + "5": -5,
	} {
		if got, ok := one(t, s); !ok || got != (lex.Token{Kind: lex.Int, Num: n}) {
			t.Errorf("%q: %v", s, got)
		}
	}
	for s, bits := range map[string]string{
		"0.0": "0000000000000000", "-0.0": "8000000000000000", "0.1": "3fb999999999999a", "-1.5": "bff8000000000000", "00.50": "3fe0000000000000",
		"12345678901234.5": "42a674e79c5fe500", "1.00000000000000": "3ff0000000000000",
	} {
		got, ok := one(t, s)
		x, e := num.ReadFloat(s)
		if !ok || e != api.OK || got != (lex.Token{Kind: lex.Float, Text: floatBytes(x)}) || x.Bits() != bits {
			t.Errorf("%q: %v, %s", s, got, x.Bits())
		}
	}
	for _, s := range []string{"A", "Z", "Nil", "A0", "AZaz09", "X" + strings.Repeat("y", 39)} {
		if got, ok := one(t, s); !ok || got != (lex.Token{Kind: lex.Con, Text: s}) {
			t.Errorf("%q: %v", s, got)
		}
	}
	for _, s := range []string{
		"a", "z", "_", "'", "''", "'a", "-", "--", "--1", "-a", "-1a", "-1-", "-1.", "-.5", ".", ".5", "-1.5.5", "-1.x", "+", "+1", "+1.5", "*", "/", "<", ">", "=", "!", "?",
		"->", "<=", "f+", "s=", "a1", "aB", "a'+*/<>=!?_.-Z9", "-12345678.12345678", "-1.000000000000000", strings.Repeat("x", 40), "-" + strings.Repeat("1", 19) + ".1",
	} {
		if got, ok := one(t, s); !ok || got != (lex.Token{Kind: lex.Name, Text: s}) {
			t.Errorf("%q: %v", s, got)
		}
	}
	for _, s := range []string{
		"12a", "1a", "0x1", "1-", "1+1", "1.", "1.5.5", "1.5e3", "1..5", "1'", "9_", "4611686018427387904", "-4611686018427387905", "-99999999999999999999999999",
		strings.Repeat("9", 100), "-" + strings.Repeat("9", 39), "12345678.12345678", "1.000000000000000",
		"A-b", "A_", "A'", "A.b", "Nil?", "X" + strings.Repeat("y", 40), strings.Repeat("x", 41), "-" + strings.Repeat("1", 39) + ".5",
		"#", "a#", "a\\n", "\\", "a,b", "[a]", "{", "a:b", "@", "$x", "%", "&", "^", "~", "|", "`", "a\r", "\r", "\v", "\f", "\x00", "a\x00", "\x7f", "\x80", "\xff", "a\xff", "é", "aé", "Né", "1é",
	} {
		if got, ok := one(t, s); ok {
			t.Errorf("%q: %v", s, got)
		}
	}
}

// P10.1: which bytes make a word, alone, behind a letter, behind a capital, behind a digit.
func TestBytesOfWords(t *testing.T) {
	const signs = "'+*/<>=!?_.-"
	for c := range 256 {
		b := string([]byte{byte(c)})
		small, capital, digit := c >= 'a' && c <= 'z', c >= 'A' && c <= 'Z', c >= '0' && c <= '9'
		sign := strings.Contains(signs, b)
		if strings.Contains(" \t\n;()\"", b) {
			continue
		}
		if got, ok := one(t, b); ok != (small || capital || digit || sign) || ok && (got.Kind == lex.Name) != (small || sign) {
			t.Errorf("%q: %v", b, got)
		}
		if got, ok := one(t, "a"+b); ok != (small || capital || digit || sign) || ok && got.Kind != lex.Name {
			t.Errorf("a%q: %v", b, got)
		}
		if got, ok := one(t, "A"+b); ok != (small || capital || digit) || ok && got.Kind != lex.Con {
			t.Errorf("A%q: %v", b, got)
		}
		if got, ok := one(t, "1"+b); ok != digit || ok && got.Kind != lex.Int {
			t.Errorf("1%q: %v", b, got)
		}
	}
}

// P10.1: a word goes as far as there are no blanks, brackets, quotes or semicolons.
func TestEndsOfWords(t *testing.T) {
	for s, want := range map[string]string{
		"ab(c":     "5@1:1 0@1:3 5@1:4",
		"ab)c":     "5@1:1 1@1:3 5@1:4",
		"a\"b\"c":  "5@1:1 4@1:2 5@1:5",
		"a;b\nc":   "5@1:1 5@2:1",
		"a\tb c\n": "5@1:1 5@1:3 5@1:5",
		"()(":      "0@1:1 1@1:2 0@1:3",
		"\"\"\"\"": "4@1:1 4@1:3",
		"1\"\"N(-": "2@1:1 4@1:2 6@1:4 0@1:5 5@1:6",
		"1.5;6\n":  "3@1:1",
	} {
		if got := tell(must(t, s)); got != want {
			t.Errorf("%q: %s, not %s", s, got, want)
		}
	}
}

// tell: tokens' kinds and places.
func tell(l []lex.Token) string {
	var parts []string
	for _, token := range l {
		parts = append(parts, num.Text(token.Kind)+"@"+num.Text(token.At.Line)+":"+num.Text(token.At.Col))
	}
	return strings.Join(parts, " ")
}

// P10.1: what strings say.
func TestStrings(t *testing.T) {
	for s, want := range map[string]string{
		`""`: "", `"a b"`: "a b", `";("`: ";(", `"'1"`: "'1", `"\""`: `"`, `"\\"`: `\`, `"\\\""`: `\"`, `"\n"`: "\n", `"\\n"`: `\n`,
		`"\x00\x0a\xff"`: "\x00\n\xff", `"\x411"`: "A1", `"\x9f\xa9"`: "\x9f\xa9", `"\\x41"`: `\x41`,
		"\" ~\x7f\x80\xff\"": " ~\x7f\x80\xff", "\"é\"": "é",
	} {
		if got, ok := one(t, s); !ok || got != (lex.Token{Kind: lex.Str, Text: want}) {
			t.Errorf("%q: %v", s, got)
		}
	}
	for c := range 256 {
		b := string([]byte{byte(c)})
		switch {
		case c < ' ':
			refused(t, "\n \"a"+b+"\"", pos(2, 4))
		case c != '"' && c != '\\':
			if got := must(t, "\"a"+b+"\""); len(got) != 1 || got[0].Text != "a"+b {
				t.Errorf("%q in a string: %v", b, got)
			}
		}
		if strings.Contains("\"\\n", b) {
			continue
		}
		refused(t, "\n\"a\\"+b+"\"", pos(2, 4))
		if isHex := strings.Contains("0123456789abcdef", b); isHex {
			if got := must(t, "\"\\x0"+b+"\\x"+b+"0\""); len(got) != 1 || len(got[0].Text) != 2 || got[0].Text[0] != got[0].Text[1]>>4 {
				t.Errorf("%q as a digit: %v", b, got)
			}
		} else {
			refused(t, "\n\"\\x0"+b+"\"", pos(2, 3))
			refused(t, "\n\"\\x"+b+"0\"", pos(2, 3))
		}
	}
}

// P10.1: in a text that is refused it is the first place, byte by byte, that is told.
func TestFirstWrong(t *testing.T) {
	for s, at := range map[string]api.Pos{
		"12a": pos(1, 1), "a 12a": pos(1, 3), "a\n\n b #c": pos(3, 4), "a\t\t#": pos(1, 4), "abc#": pos(1, 1), "(a#)": pos(1, 2),
		"# \"": pos(1, 1), "\" #": pos(1, 1), "\"#\" #": pos(1, 5), "; #\n#": pos(2, 1), ";\"\n#": pos(2, 1),
		"\"": pos(1, 1), "\n \"abc": pos(2, 2), "\"\\": pos(1, 1), "a \"b\\": pos(1, 3), "\"\\\"": pos(1, 1), "\"\\n": pos(1, 1), "\"\\\\": pos(1, 1), "\";\"\"": pos(1, 4),
		"\"\\x": pos(1, 3), "\"\\x4": pos(1, 3), "\"\\x41": pos(1, 1), "\"\\x\"": pos(1, 3), "\"\\x4\"": pos(1, 3), "\"\\xAB\"": pos(1, 3), "\"\\xg0\"": pos(1, 3),
		"\"\\N\"": pos(1, 3), "\"\\t\"": pos(1, 3), "\"\\'\"": pos(1, 3), "\"a\\ \"": pos(1, 4), "\"\\\n\"": pos(1, 3), "\"\\\x00": pos(1, 3), "\"ab\ncd\"": pos(1, 4), "\"\t\"": pos(1, 2),
		"\"\\q\n": pos(1, 3), "\"\n\\q": pos(1, 2), "a\"\x1f": pos(1, 3),
	} {
		refused(t, s, at)
	}
}

// P10.1: the limits: so many, and not one more.
func TestLimits(t *testing.T) {
	long := strings.Repeat("a ", api.MaxText/2)
	if l := must(t, long); len(l) != api.MaxText/2 || l[len(l)-1] != (lex.Token{Kind: lex.Name, At: pos(1, api.MaxText-1), Text: "a"}) {
		t.Error(len(l))
	}
	if l := must(t, strings.Repeat("\n", api.MaxText)); len(l) != 0 {
		t.Error(l)
	}
	for _, s := range []string{long + " ", "#" + long, "\"" + long, strings.Repeat(";", api.MaxText+1), strings.Repeat("\x00", 1<<20)} {
		if l, at, e := lex.Scan(s); e != api.ErrBig || at != (api.Pos{}) || len(l) != 0 {
			t.Errorf("%q..: %d at %v", s[:2], e, at)
		}
	}
	full := strings.Repeat("x", api.MaxStr)
	for _, s := range []string{full, strings.Repeat(`\x78`, api.MaxStr), full[4:] + `\x78xx\x78`} {
		if got, ok := one(t, "\""+s+"\""); !ok || got.Text != full {
			t.Errorf("%q..: %d", s[:5], len(got.Text))
		}
		refused(t, "a\n \""+s+"x\" #", pos(2, 2))
		refused(t, "a\n \""+s+"\\n\"", pos(2, 2))
		// What stands in it is met ahead of its end.
		refused(t, "\n\""+full+full+"\\q\"", pos(2, 2*api.MaxStr+3))
		refused(t, "\n\""+full+full+"\n\"", pos(2, 2*api.MaxStr+2))
		refused(t, "\n\""+full+full, pos(2, 1))
	}
}

// P10.1, P1: of all texts, as a second telling of the chapter has it.
func TestAsTold(t *testing.T) {
	d := dice(10)
	pieces := []string{
		"(", ")", "\"", "\\", ";", " ", "\t", "\n", "\r", "a", "x", "n", "f", "Nil", "N", "0", "4", "12", "-", ".", "1.5", "-1", "'", "_", "->", "#", "\x00", "\x1f", "\x7f", "\xff", "é",
		"\"ab\"", "\\x41", "\\n", "\\\"", "; c\n", "4611686018427387903", "123456789", "(a)", " \"s\" ",
	}
	wrong := 0
	for range 60000 {
		var b strings.Builder
		for range d.below(9) {
			b.WriteString(pick(&d, pieces...))
		}
		src := b.String()
		l, at, e := lex.Scan(src)
		want, wantAt, wantErrno := rule(src)
		if !same(l, want) || at != wantAt || e != wantErrno {
			t.Fatalf("%q: %v, %d at %v, not %v, %d at %v", src, l, e, at, want, wantErrno, wantAt)
		}
		if e != api.OK {
			wrong++
		}
	}
	if wrong < 6000 || wrong > 54000 {
		t.Errorf("%d were refused: too few of the other kind", wrong)
	}
	for range 20000 {
		b := make([]byte, d.below(12))
		for i := range b {
			b[i] = byte(d.below(256))
		}
		l, at, e := lex.Scan(string(b))
		if want, wantAt, wantErrno := rule(string(b)); !same(l, want) || at != wantAt || e != wantErrno {
			t.Fatalf("%q: %v, %d at %v", b, l, e, at)
		}
	}
}

// P10.2: blanks between tokens are nothing, but for the places.
func TestBlanks(t *testing.T) {
	d := dice(11)
	tokens := []string{"(", ")", "a", "->", "'a", "_", "Nil", "12", "-7", "1.5", "-0.0", `"s ; \n( "`, `""`}
	blank := []string{" ", "\t", "\n", ";\n", "; ( \" #\x00\xff\n", ";;\n", " \n\t"}
	for range 5000 {
		plain, spread := "", pick(&d, "", " ", ";\n")
		for range d.below(12) {
			s := pick(&d, tokens...)
			plain += s + " "
			spread += s
			for range 1 + d.below(3) {
				spread += pick(&d, blank...)
			}
		}
		a, b := must(t, plain), must(t, spread+pick(&d, "", ";", "; c", " ", "\n"))
		for i := range b {
			checkPlace(t, spread, b[i])
		}
		for i := range a {
			a[i].At = api.Pos{}
		}
		for i := range b {
			b[i].At = api.Pos{}
		}
		if !same(a, b) {
			t.Fatalf("%q: %v; %q: %v", plain, a, spread, b)
		}
	}
	// Brackets and strings need none.
	if got := tell(must(t, "(a(\"b\"1)\"c\"N)")); got != "0@1:1 5@1:2 0@1:3 4@1:4 2@1:7 1@1:8 4@1:9 6@1:12 1@1:13" {
		t.Error(got)
	}
	// Within a string they are its own, and a comment ends a word.
	if l := must(t, "\" ;\" a;\"b\"\n;"); len(l) != 2 || l[0].Text != " ;" || l[1].Text != "a" {
		t.Error(l)
	}
}

// checkPlace: does the token stand where it says?
func checkPlace(t *testing.T, src string, token lex.Token) {
	t.Helper()
	line := strings.Split(src, "\n")[token.At.Line-1]
	rest := line[token.At.Col-1:]
	begins := map[int]string{lex.Open: "(", lex.Close: ")", lex.Str: "\"", lex.Int: num.Text(token.Num), lex.Name: token.Text, lex.Con: token.Text}
	if !strings.HasPrefix(rest, begins[token.Kind]) {
		t.Fatalf("%q: no %v at its place", src, token)
	}
}

// Rule 4: what is handed out is the caller's own.
func TestNewMemory(t *testing.T) {
	const src = "(a 1)"
	a, b := must(t, src), must(t, src)
	a[1] = lex.Token{}
	if b[1].Text != "a" || must(t, src)[1].Text != "a" {
		t.Error("two answers share memory")
	}
}
