package lex_test

import (
	"math/rand"
	"regexp"
	"slices"
	"strconv"
	"strings"
	"testing"

	"dripstone/api"
	"dripstone/lex"
)

func token(kind uint8, text string, at int) api.Lexeme {
	return api.Lexeme{Kind: kind, Text: text, At: at}
}

func name(text string) api.Lexeme   { return token(api.NameToken, text, 0) }
func word(text string) api.Lexeme   { return token(api.WordToken, text, 0) }
func number(text string) api.Lexeme { return token(api.NumberToken, text, 0) }
func sign(text string) api.Lexeme   { return token(api.SignToken, text, 0) }

// P1.1: kinds, texts and places.
func TestScanTokens(t *testing.T) {
	for _, x := range []struct {
		s    string
		want []api.Lexeme
	}{
		{"", nil},
		{" \n \n", nil},
		{"%", nil},
		{"% & A \"", nil},
		{"%a\n%b", nil},
		{"put x {1};% one", []api.Lexeme{token(api.WordToken, "put", 0), token(api.NameToken, "x", 4), token(api.SignToken, "{", 6), token(api.NumberToken, "1", 7), token(api.SignToken, "}", 8), token(api.SignToken, ";", 9)}},
		{"%\na", []api.Lexeme{token(api.NameToken, "a", 2)}},
		{"a%b%c\nd", []api.Lexeme{token(api.NameToken, "a", 0), token(api.NameToken, "d", 6)}},
		{"1a", []api.Lexeme{token(api.NumberToken, "1", 0), token(api.NameToken, "a", 1)}},
		{"a1b2", []api.Lexeme{token(api.NameToken, "a1b2", 0)}},
		{"all alls al all1", []api.Lexeme{token(api.WordToken, "all", 0), token(api.NameToken, "alls", 4), token(api.NameToken, "al", 9), token(api.NameToken, "all1", 12)}},
		{"0 1000000000 9", []api.Lexeme{token(api.NumberToken, "0", 0), token(api.NumberToken, "1000000000", 2), token(api.NumberToken, "9", 13)}},
		{"az09", []api.Lexeme{token(api.NameToken, "az09", 0)}},
	} {
		l, at, e := lex.Scan(x.s)
		if !slices.Equal(l, x.want) || at != 0 || e != api.OK {
			t.Errorf("Scan of %q: %v, %d, %v", x.s, l, at, e)
		}
	}
}

// P1.1: all keywords are words, all signs are signs, and the longest sign is read.
func TestScanTables(t *testing.T) {
	for _, s := range api.Keywords() {
		if l, _, e := lex.Scan(" " + s); !slices.Equal(l, []api.Lexeme{token(api.WordToken, s, 1)}) || e != api.OK {
			t.Errorf("Scan of %s: %v, %v", s, l, e)
		}
	}
	for _, s := range api.Signs() {
		if l, _, e := lex.Scan(s + "a"); !slices.Equal(l, []api.Lexeme{token(api.SignToken, s, 0), token(api.NameToken, "a", len(s))}) || e != api.OK {
			t.Errorf("Scan of %s: %v, %v", s, l, e)
		}
	}
	for s, want := range map[string]string{"===": "==|=|", "<==": "<=|=|", "=<": "=|<|", "!!=": "!|!=|", ">>=": ">|>=|", "=!": "=|!|", "= =": "=|=|", "=%\n=": "=|=|"} {
		if l, _, e := lex.Scan(s); written(l) != want || e != api.OK {
			t.Errorf("Scan of %s: %v, %v", s, l, e)
		}
	}
}

// P1.1: the errors, their order, and their places.
func TestScanErrors(t *testing.T) {
	for _, x := range []struct {
		s  string
		at int
		e  api.Errno
	}{
		{strings.Repeat(" ", api.MaxText), 0, api.OK},
		{strings.Repeat(" ", api.MaxText+1), 0, api.ErrLimit},
		{strings.Repeat("\x00", api.MaxText+1), 0, api.ErrLimit},
		{strings.Repeat("&", api.MaxText+1), 0, api.ErrLimit},
		{"& % \x1f", 4, api.ErrForm},
		{"a\x1f\x7f", 1, api.ErrForm},
		{"~~\x7f", 2, api.ErrForm},
		{"%~\r", 2, api.ErrForm},
		{"a\xc3\xa4", 1, api.ErrForm},
		{"\xff", 0, api.ErrForm},
		{"a \tb", 2, api.ErrForm},
		{"a ~", 2, api.ErrForm},
		{"A", 0, api.ErrForm},
		{"aB", 1, api.ErrForm},
		{"1_", 1, api.ErrForm},
		{"a\n `", 3, api.ErrForm},
		{"00", 0, api.ErrForm},
		{"1 01", 2, api.ErrForm},
		{"0a", 0, api.OK},
		{"-1", 0, api.OK},
		{"1000000000", 0, api.OK},
		{"1000000001", 0, api.ErrForm},
		{";9999999999", 1, api.ErrForm},
		{";18446744073709551617", 1, api.ErrForm},
		{strings.Repeat("1", api.MaxText), 0, api.ErrForm},
		{"abcdefghijkl", 0, api.OK},
		{"a abcdefghijklm &", 2, api.ErrForm},
		{"abcdefghijkl1=", 0, api.ErrForm},
		{strings.Repeat(";", api.MaxTokens) + " % ;", 0, api.OK},
		{strings.Repeat(";", api.MaxTokens) + " ;", api.MaxTokens + 1, api.ErrLimit},
		{strings.Repeat(";", api.MaxTokens) + " ;&", api.MaxTokens + 1, api.ErrLimit},
		{strings.Repeat(";", api.MaxTokens) + " 00", api.MaxTokens + 1, api.ErrForm},
		{strings.Repeat(";", api.MaxTokens-1) + " &;;", api.MaxTokens, api.ErrForm},
		{strings.Repeat(";", api.MaxTokens+1) + "\x00", api.MaxTokens + 1, api.ErrForm},
	} {
		l, at, e := lex.Scan(x.s)
		if at != x.at || e != x.e || e != api.OK && l != nil {
			t.Errorf("Scan of %.30q: %v, %d, %v; not %d, %v", x.s, l, at, e, x.at, x.e)
		}
	}
	if l, _, e := lex.Scan(strings.Repeat("; ", api.MaxTokens)); len(l) != api.MaxTokens || l[899] != token(api.SignToken, ";", 1798) || e != api.OK {
		t.Errorf("Scan of as many tokens as there may be: %d, %v", len(l), e)
	}
}

var nextToken = regexp.MustCompile(`^(?:([a-z][a-z0-9]*)|([0-9]+)|(==|!=|<=|>=|[<>=+*/!#()\[\]{},;:-]))`)
var nextGap = regexp.MustCompile(`^(?:[ \n]|%[^\n]*)*`)

// byRules reads a short right text by expressions; place -1 stands for no error.
func byRules(s string) (l []api.Lexeme, bad int) {
	for at := 0; ; {
		at += len(nextGap.FindString(s[at:]))
		if at == len(s) {
			return l, -1
		}
		m := nextToken.FindStringSubmatch(s[at:])
		n := 0
		switch {
		case m == nil:
			return nil, at
		case slices.Contains(api.Keywords(), m[1]):
			l = append(l, token(api.WordToken, m[1], at))
		case m[1] != "" && len(m[1]) <= 12:
			l = append(l, token(api.NameToken, m[1], at))
		case m[2] != "":
			n, _ = strconv.Atoi(m[2])
			if strconv.Itoa(n) != m[2] || n > 1000000000 {
				return nil, at
			}
			l = append(l, token(api.NumberToken, m[2], at))
		case m[3] != "":
			l = append(l, token(api.SignToken, m[3], at))
		default:
			return nil, at
		}
		at += len(m[0])
	}
}

// P1.1: as the rules of tokens say, on all short texts and on longer ones.
func TestScanByRules(t *testing.T) {
	test := func(s string) {
		l, at, e := lex.Scan(s)
		want, bad := byRules(s)
		if bad < 0 && (!slices.Equal(l, want) || at != 0 || e != api.OK) || bad >= 0 && (l != nil || at != bad || e != api.ErrForm) {
			t.Errorf("Scan of %q: %v, %d, %v; not %v, %d", s, l, at, e, want, bad)
		}
	}
	for s := range allTexts("a0=% \n&", 5) {
		test(s)
	}
	r := rand.New(rand.NewSource(1))
	for range 3000 {
		test(someText(r, 40))
	}
	for c := range 256 {
		if c == '\n' || ' ' <= c && c <= '~' {
			test(string([]byte{byte(c)}))
			test(string([]byte{'a', byte(c), '1'}))
		}
	}
}

// P1.2.
func TestKindOfTexts(t *testing.T) {
	for s, want := range map[string]uint8{
		"x": api.NameToken, "alls": api.NameToken, "a1": api.NameToken, "abcdefghijkl": api.NameToken, "z9": api.NameToken, "main": api.NameToken,
		"0": api.NumberToken, "10": api.NumberToken, "1000000000": api.NumberToken,
		"": 0, " ": 0, " x": 0, "x ": 0, "x\n": 0, "\nx": 0, "%": 0, "x%": 0, "%x": 0, "x y": 0, "x;": 0,
		"00": 0, "01": 0, "1x": 0, "-1": 0, "1000000001": 0, "99999999999999999999": 0, "abcdefghijklm": 0,
		"===": 0, "=>": 0, "&": 0, "A": 0, "xA": 0, "\x00": 0, "x\x00": 0, "\x80": 0, "\t": 0,
	} {
		kind, e := lex.Kind(s)
		if kind != want || (want == 0) != (e == api.ErrForm) || want != 0 && e != api.OK {
			t.Errorf("Kind of %q: %d, %v", s, kind, e)
		}
	}
	for _, s := range api.Keywords() {
		if kind, e := lex.Kind(s); kind != api.WordToken || e != api.OK {
			t.Errorf("Kind of %q: %d, %v", s, kind, e)
		}
	}
	for _, s := range api.Signs() {
		if kind, e := lex.Kind(s); kind != api.SignToken || e != api.OK {
			t.Errorf("Kind of %q: %d, %v", s, kind, e)
		}
	}
	for _, s := range []string{strings.Repeat("a", api.MaxText+1), strings.Repeat(" ", api.MaxText+1)} {
		if kind, e := lex.Kind(s); kind != 0 || e != api.ErrForm {
			t.Errorf("Kind of a long text: %d, %v", kind, e)
		}
	}
}

// P1.3: where there is a blank.
func TestJoinBlanks(t *testing.T) {
	for _, x := range []struct {
		l    []api.Lexeme
		want string
	}{
		{nil, ""},
		{[]api.Lexeme{}, ""},
		{[]api.Lexeme{name("a"), name("b"), sign("<"), sign("="), number("1"), number("2")}, "a b< =1 2"},
		{[]api.Lexeme{word("all"), word("as"), name("x"), number("0")}, "all as x 0"},
		{[]api.Lexeme{number("0"), number("0"), word("all")}, "0 0all"},
		{[]api.Lexeme{number("1000000000"), number("1")}, "1000000000 1"},
		{[]api.Lexeme{name("abcdefghijkl"), name("m")}, "abcdefghijkl m"},
		{[]api.Lexeme{word("on"), name("ce"), number("1"), name("ce")}, "on ce 1ce"},
		{[]api.Lexeme{sign("!"), sign("=="), sign("!="), sign("="), sign(">"), sign("="), sign("=")}, "! ==!==> = ="},
		{[]api.Lexeme{sign("<"), sign("<="), sign("-"), number("1"), sign("-"), sign("-")}, "<<=-1--"},
		{[]api.Lexeme{token(api.NameToken, "a", 70), token(api.SignToken, ";", -3)}, "a;"},
	} {
		s, e := lex.Join(x.l)
		if s != x.want || e != api.OK {
			t.Errorf("Join of %v: %q, %v", x.l, s, e)
		}
	}
}

// P1.3: the errors and their order, and the limits.
func TestJoinErrors(t *testing.T) {
	long := slices.Repeat([]api.Lexeme{name("abcdefghijkl")}, 192) // 192*13 - 1 bytes
	for i, x := range []struct {
		l []api.Lexeme
		n int
		e api.Errno
	}{
		{slices.Repeat([]api.Lexeme{sign(";")}, api.MaxTokens), api.MaxTokens, api.OK},
		{slices.Repeat([]api.Lexeme{sign(";")}, api.MaxTokens+1), 0, api.ErrLimit},
		{make([]api.Lexeme, api.MaxTokens+1), 0, api.ErrLimit},
		{slices.Concat(long, []api.Lexeme{name("abcd")}), api.MaxText, api.OK},
		{slices.Concat(long, []api.Lexeme{name("abcde")}), 0, api.ErrLimit},
		{slices.Concat(long, []api.Lexeme{name("abcde"), sign("&")}), 0, api.ErrForm},
		{[]api.Lexeme{name("a"), {}}, 0, api.ErrForm},
		{[]api.Lexeme{{Kind: 0, Text: "a"}}, 0, api.ErrForm},
		{[]api.Lexeme{{Kind: 0, Text: "&"}}, 0, api.ErrForm},
		{[]api.Lexeme{{Kind: 5, Text: "a"}}, 0, api.ErrForm},
		{[]api.Lexeme{word("a")}, 0, api.ErrForm},
		{[]api.Lexeme{name("all")}, 0, api.ErrForm},
		{[]api.Lexeme{number(";")}, 0, api.ErrForm},
		{[]api.Lexeme{name("a ")}, 0, api.ErrForm},
		{[]api.Lexeme{name("")}, 0, api.ErrForm},
		{[]api.Lexeme{name("abcdefghijklm")}, 0, api.ErrForm},
		{[]api.Lexeme{number("01")}, 0, api.ErrForm},
		{[]api.Lexeme{name("a\x00")}, 0, api.ErrForm},
	} {
		if s, e := lex.Join(x.l); len(s) != x.n || e != x.e {
			t.Errorf("%d: Join: %d bytes, %v; not %d, %v", i, len(s), e, x.n, x.e)
		}
	}
}

// P1.11: Join keeps tokens, and no text that has the same ones is shorter.
func TestJoinAgain(t *testing.T) {
	shortest := map[string]int{}
	joined := map[string]string{}
	for s := range allTexts("a1=<;% \n", 5) {
		l, _, e := lex.Scan(s)
		if e != api.OK {
			continue
		}
		key := written(l)
		if n, ok := shortest[key]; !ok || len(s) < n {
			shortest[key] = len(s)
		}
		if joined[key] == "" {
			joined[key], _ = lex.Join(l)
		}
		if j, e := lex.Join(l); j != joined[key] || e != api.OK {
			t.Errorf("Join of the tokens of %q: %q, %v", s, j, e)
		}
		if again := scanned(joined[key]); !slices.Equal(bare(again), bare(l)) {
			t.Errorf("the tokens of %q are others than those of %q", joined[key], s)
		}
	}
	for key, n := range shortest {
		if len(joined[key]) != n {
			t.Errorf("Join to %q, but %d bytes have the same tokens", joined[key], n)
		}
	}
}

// P1.11: on longer texts, Join and Blank keep the tokens.
func TestLongerTextsAgain(t *testing.T) {
	r := rand.New(rand.NewSource(2))
	for range 3000 {
		s := someText(r, 60)
		l, _, e := lex.Scan(s)
		b, _, f := lex.Blank(s)
		if f != api.OK || len(b) != len(s) {
			t.Errorf("Blank of %q: %q, %v", s, b, f)
		}
		if m, _, g := lex.Scan(b); !slices.Equal(m, l) || g != e {
			t.Errorf("Scan of Blank of %q: %v, %v", s, m, g)
		}
		if e != api.OK {
			continue
		}
		if j, e := lex.Join(l); e != api.OK || !slices.Equal(bare(scanned(j)), bare(l)) {
			t.Errorf("Join of the tokens of %q: %q, %v", s, j, e)
		}
	}
}
