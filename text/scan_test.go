package text_test

import (
	"math/rand"
	"slices"
	"strings"
	"testing"

	"grammarlab/api"
	"grammarlab/text"
)

func name(s string) api.Token    { return api.Token{Kind: api.TokName, Text: s, Line: 1} }
func feature(s string) api.Token { return api.Token{Kind: api.TokFeature, Text: s, Line: 1} }
func str(s string) api.Token     { return api.Token{Kind: api.TokString, Text: s, Line: 1} }
func number(s string) api.Token  { return api.Token{Kind: api.TokNumber, Text: s, Line: 1} }
func symbol(s string) api.Token  { return api.Token{Kind: api.TokSymbol, Text: s, Line: 1} }

func in(line int, t api.Token) api.Token {
	t.Line = line
	return t
}

func symbols() []string {
	return []string{"<!", "!>", "(", ")", "[", "]", "<", ">", "{", "}", ",", ".", ";", ":", "=", "&", "|", "/", "#", "@"}
}

func checkScan(t *testing.T, s string, want ...api.Token) {
	t.Helper()
	if l, n, e := text.Scan(s); e != api.OK || n != 0 || !slices.Equal(l, want) {
		t.Errorf("Scan(%.80q) = %v, %d, %v, not %v", s, l, n, e, want)
	}
}

func checkScanError(t *testing.T, s string, line int, want api.Errno) {
	t.Helper()
	if l, n, e := text.Scan(s); e != want || n != line || len(l) != 0 {
		t.Errorf("Scan(%.80q) = %v, %d, %v, not %d, %v", s, l, n, e, line, want)
	}
}

// P1.4: the kinds of tokens.
func TestScanKinds(t *testing.T) {
	checkScan(t, "np := [AGR #a]", name("np"), symbol(":"), symbol("="), symbol("["), feature("AGR"), symbol("#"), name("a"), symbol("]"))
	checkScan(t, "a1-2b- A1-2B-", name("a1-2b-"), feature("A1-2B-"))
	checkScan(t, "0 7 -7 12 -3405", number("0"), number("7"), number("-7"), number("12"), number("-3405"))
	checkScan(t, "9223372036854775807 -9223372036854775808", number("9223372036854775807"), number("-9223372036854775808"))
	checkScan(t, `"" "a" "Big Dog" "% 1 \ <!" "`+"' !~"+`"`, str(""), str("a"), str("Big Dog"), str(`% 1 \ <!`), str("' !~"))
	for _, s := range symbols() {
		checkScan(t, s, symbol(s))
	}
	checkScan(t, "")
}

// P1.4: a token is as long as possible.
func TestScanLongest(t *testing.T) {
	checkScan(t, "<!>", symbol("<!"), symbol(">"))
	checkScan(t, "<!!>", symbol("<!"), symbol("!>"))
	checkScan(t, "<<!!>>", symbol("<"), symbol("<!"), symbol("!>"), symbol(">"))
	checkScan(t, "<!a!>", symbol("<!"), name("a"), symbol("!>"))
	checkScan(t, "< >", symbol("<"), symbol(">"))
	checkScan(t, ":=<>[]", symbol(":"), symbol("="), symbol("<"), symbol(">"), symbol("["), symbol("]"))
	checkScan(t, "1-2", number("1"), number("-2"))
	checkScan(t, "a-1", name("a-1"))
	checkScan(t, "-1a", number("-1"), name("a"))
	checkScan(t, "1A", number("1"), feature("A"))
	checkScan(t, "Np", feature("N"), name("p"))
	checkScan(t, "np1A-b", name("np1"), feature("A-"), name("b"))
	checkScan(t, `a"b"C"d""e"1`, name("a"), str("b"), feature("C"), str("d"), str("e"), number("1"))
	checkScan(t, "#a&@b.", symbol("#"), name("a"), symbol("&"), symbol("@"), name("b"), symbol("."))
}

// P1.4: what separates tokens, and the numbers of their lines.
func TestScanLines(t *testing.T) {
	checkScan(t, " \t\r\n\n \r")
	checkScan(t, "a\tb\rc d", name("a"), name("b"), name("c"), name("d"))
	checkScan(t, "a\r\nb\n\nc", name("a"), in(2, name("b")), in(4, name("c")))
	checkScan(t, "\n\n\"a\" -1\nB\n;", in(3, str("a")), in(3, number("-1")), in(4, feature("B")), in(5, symbol(";")))
	checkScan(t, "a % b\n<!c", name("a"), in(2, symbol("<!")), in(2, name("c")))
	checkScan(t, "%")
	checkScan(t, "%\n%%\na", in(3, name("a")))
	checkScan(t, "a%b\nc%d", name("a"), in(2, name("c")))
	checkScan(t, "% \" ~ \x00 \x7f caf\u00e9 \xff -\r!\n1", in(2, number("1")))
	checkScan(t, "% \xe3\na", in(2, name("a")))
	checkScan(t, `a "% b" c`, name("a"), str("% b"), name("c"))
	checkScan(t, "<%\n!>", symbol("<"), in(2, symbol("!>")))
}

// P1.4: every byte where a token may begin.
func TestScanBytes(t *testing.T) {
	for i := range 256 {
		s := string([]byte{byte(i)})
		switch {
		case strings.Contains(" \t\r\n%", s):
			checkScan(t, s)
		case strings.Contains(lowerLetters, s):
			checkScan(t, s, name(s))
		case strings.Contains(upperLetters, s):
			checkScan(t, s, feature(s))
		case strings.Contains(digits, s):
			checkScan(t, s, number(s))
		case slices.Contains(symbols(), s):
			checkScan(t, s, symbol(s))
		case s == "\"":
			checkScanError(t, s, 1, api.ErrTruncated)
		default:
			checkScanError(t, s, 1, api.ErrSyntax)
			checkScanError(t, "a\n"+s+" b", 2, api.ErrSyntax)
			checkScanError(t, "1"+s+"\n2", 1, api.ErrSyntax)
		}
	}
}

// P1.4: every byte inside of a string.
func TestScanStringBytes(t *testing.T) {
	for i := range 256 {
		c := string([]byte{byte(i)})
		switch {
		case c == "\"":
			checkScanError(t, "\n\"a"+c+"b\"", 2, api.ErrTruncated)
		case i >= 32 && i <= 126:
			checkScan(t, "\"a"+c+"b\"", str("a"+c+"b"))
		default:
			checkScanError(t, "\n\"a"+c+"b\"", 2, api.ErrSyntax)
			checkScanError(t, "\"a"+c, 1, api.ErrSyntax)
		}
	}
}

// P1.4: the errors and their lines.
func TestScanErrors(t *testing.T) {
	long := strings.Repeat("a", api.MaxName+1)
	tests := []struct {
		source string
		line   int
		want   api.Errno
	}{
		{"x \"y", 1, api.ErrTruncated},
		{"\"", 1, api.ErrTruncated},
		{"a\n\n\"b % c", 3, api.ErrTruncated},
		{"\"a\nb\"", 1, api.ErrSyntax},
		{"\"a\n", 1, api.ErrSyntax},
		{"a\n\"b\tc", 2, api.ErrSyntax},
		{"\"\u00e9\"", 1, api.ErrSyntax},
		{"a\n\n~", 3, api.ErrSyntax},
		{"\u00e9", 1, api.ErrSyntax},
		{"!", 1, api.ErrSyntax},
		{"! >", 1, api.ErrSyntax},
		{"a !\n>", 1, api.ErrSyntax},
		{"-", 1, api.ErrSyntax},
		{"a -", 1, api.ErrSyntax},
		{"-a", 1, api.ErrSyntax},
		{"--1", 1, api.ErrSyntax},
		{"1-", 1, api.ErrSyntax},
		{"- 1", 1, api.ErrSyntax},
		{"\n01", 2, api.ErrSyntax},
		{"-0", 1, api.ErrSyntax},
		{"-01", 1, api.ErrSyntax},
		{"9223372036854775808", 1, api.ErrRange},
		{"\n-9223372036854775809 ~", 2, api.ErrRange},
		{"09223372036854775808", 1, api.ErrSyntax},
		{"\n" + long, 2, api.ErrTooLong},
		{strings.ToUpper(long), 1, api.ErrTooLong},
		{long + "\n~", 1, api.ErrTooLong},
		{"~\n" + long, 1, api.ErrSyntax},
		{"a\n" + long + " \"", 2, api.ErrTooLong},
		{"99999999999999999999 01", 1, api.ErrRange},
		{"01 99999999999999999999", 1, api.ErrSyntax},
		{"a \f b", 1, api.ErrSyntax},
		{"a \v", 1, api.ErrSyntax},
		{"a\\", 1, api.ErrSyntax},
	}
	for _, x := range tests {
		checkScanError(t, x.source, x.line, x.want)
	}
}

// P1.4: each limit itself is permitted.
func TestScanLimits(t *testing.T) {
	n := strings.Repeat("a", api.MaxName)
	checkScan(t, n+" "+strings.ToUpper(n), name(n), feature(strings.ToUpper(n)))
	checkScan(t, n+strings.ToUpper(n), name(n), feature(strings.ToUpper(n)))

	s := strings.Repeat("x", api.MaxText-2)
	checkScan(t, "\""+s+"\"", str(s))
	checkScanError(t, "\""+s+"\" ", 0, api.ErrTooLong)
	checkScan(t, strings.Repeat("\n", api.MaxText-1)+"a", in(api.MaxText, name("a")))
	checkScanError(t, strings.Repeat(" ", api.MaxText+1), 0, api.ErrTooLong)
	checkScanError(t, "~"+strings.Repeat("\n", api.MaxText), 0, api.ErrTooLong)
	checkScanError(t, "\""+strings.Repeat("a", api.MaxText-1), 1, api.ErrTruncated)

	dots := make([]api.Token, api.MaxText)
	for i := range dots {
		dots[i] = symbol(".")
	}
	checkScan(t, strings.Repeat(".", api.MaxText), dots...)
}

// randomTokens returns tokens in line 1, of all kinds.
func randomTokens(r *rand.Rand) []api.Token {
	pick := func(chars string) string {
		i := r.Intn(len(chars))
		return chars[i : i+1]
	}
	repeat := func(s, chars string, most int) string {
		for n := r.Intn(most + 1); n > 0; n-- {
			s += pick(chars)
		}
		return s
	}
	l := make([]api.Token, r.Intn(20))
	for i := range l {
		switch r.Intn(5) {
		case 0:
			l[i] = name(repeat(pick(lowerLetters), lowerLetters+digits+"-", api.MaxName-1))
		case 1:
			l[i] = feature(repeat(pick(upperLetters), upperLetters+digits+"-", api.MaxName-1))
		case 2:
			l[i] = number(text.Decimal(int(r.Uint64() >> r.Intn(64))))
		case 3:
			l[i] = str(repeat("", wordChars+upperLetters+" \\", 40))
		default:
			l[i] = symbol(symbols()[r.Intn(len(symbols()))])
		}
	}
	return l
}

// source returns tokens with separators between.
func source(l []api.Token, separator func() string) string {
	var parts []string
	for _, x := range l {
		s := x.Text
		if x.Kind == api.TokString {
			s = "\"" + s + "\""
		}
		parts = append(parts, s, separator())
	}
	return strings.Join(parts, "")
}

// P1.6
func TestScanOfWrittenTokens(t *testing.T) {
	r := rand.New(rand.NewSource(6))
	for range 2000 {
		l := randomTokens(r)
		checkScan(t, source(l, func() string { return strings.Repeat(" ", 1+r.Intn(3)) }), l...)
	}
}

// P1.7
func TestScanOfTwoSources(t *testing.T) {
	r := rand.New(rand.NewSource(7))
	separator := func() string {
		return []string{" ", "\n", "\t\n ", "\r\n", "% x \" ~\n", "\n%\n\n"}[r.Intn(6)]
	}
	ends := []string{"", "\n", "% end", "\r", "%"}
	for range 2000 {
		a := source(randomTokens(r), separator) + ends[r.Intn(len(ends))]
		b := source(randomTokens(r), separator) + ends[r.Intn(len(ends))]
		first, _, e := text.Scan(a)
		second, _, f := text.Scan(b)
		if e != api.OK || f != api.OK {
			t.Fatalf("Scan(%q), Scan(%q): %v, %v", a, b, e, f)
		}
		lines := strings.Count(a, "\n") + 1
		want := slices.Clone(first)
		for _, x := range second {
			want = append(want, in(x.Line+lines, x))
		}
		checkScan(t, a+"\n"+b, want...)
	}
}
