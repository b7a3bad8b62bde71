package text_test

import (
	"math"
	"slices"
	"strings"
	"testing"

	"grammarlab/api"
	"grammarlab/text"
)

const (
	lowerLetters = "abcdefghijklmnopqrstuvwxyz"
	upperLetters = "ABCDEFGHIJKLMNOPQRSTUVWXYZ"
	digits       = "0123456789"
)

// wordChars is every character that a word can have, written out.
const wordChars = "!#$%&'()*+,-./0123456789:;<=>?@[]^_`abcdefghijklmnopqrstuvwxyz{|}~"

// P1.1: every byte, as the first one, as a later one and as the last one.
func TestNameBytes(t *testing.T) {
	tests := []struct {
		name    string
		f       func(string) bool
		first   string
		letters string
	}{
		{"Name", text.Name, lowerLetters, lowerLetters + digits + "-"},
		{"Feature", text.Feature, upperLetters, upperLetters + digits + "-"},
		{"Word", text.Word, wordChars, wordChars},
	}
	for _, x := range tests {
		letter := x.first[len(x.first)-1:]
		for i := range 256 {
			c := string([]byte{byte(i)})
			if got, want := x.f(c), strings.Contains(x.first, c); got != want {
				t.Errorf("%s(%q) = %v", x.name, c, got)
			}
			want := strings.Contains(x.letters, c)
			for _, s := range []string{letter + c, letter + c + letter} {
				if got := x.f(s); got != want {
					t.Errorf("%s(%q) = %v", x.name, s, got)
				}
			}
		}
	}
}

// P1.1: the lengths, and characters of several bytes.
func TestNameLengths(t *testing.T) {
	tests := []struct {
		name   string
		f      func(string) bool
		letter string
	}{
		{"Name", text.Name, "a"},
		{"Feature", text.Feature, "A"},
		{"Word", text.Word, "'"},
	}
	for _, x := range tests {
		for n, want := range map[int]bool{0: false, 1: true, 2: true, api.MaxName - 1: true, api.MaxName: true, api.MaxName + 1: false, 1000: false} {
			if x.f(strings.Repeat(x.letter, n)) != want {
				t.Errorf("%s of %d bytes: not %v", x.name, n, want)
			}
		}
		for _, s := range []string{"\u00e9", x.letter + "\u00e9", x.letter + "\u0100" + x.letter, x.letter + "\uff21", x.letter + "\ufffd"} {
			if x.f(s) {
				t.Errorf("%s(%q)", x.name, s)
			}
		}
	}
}

func TestNameExamples(t *testing.T) {
	if !text.Name("sg-noun") || !text.Name("a-") || !text.Name("a--1") || text.Name("2nd") || text.Name("NP") || text.Name("nP") || text.Name("-a") {
		t.Error("Name")
	}
	if !text.Feature("HEAD-DTR") || !text.Feature("X-") || text.Feature("2ND") || text.Feature("np") || text.Feature("Np") || text.Feature("-A") {
		t.Error("Feature")
	}
	if !text.Word("don't") || !text.Word("%") || !text.Word("-1") || text.Word("the dog") || text.Word("I") || text.Word("\\") || text.Word("a\n") {
		t.Error("Word")
	}
}

// P1.2: strings that are numbers.
func TestNumber(t *testing.T) {
	for s, want := range map[string]int{
		"0": 0, "1": 1, "-1": -1, "9": 9, "10": 10, "-10": -10, "1024": 1024, "-90071": -90071,
		"9223372036854775807": math.MaxInt64, "-9223372036854775808": math.MinInt64,
	} {
		if n, e := text.Number(s); n != want || e != api.OK {
			t.Errorf("Number(%q) = %d, %v", s, n, e)
		}
		if d := text.Decimal(want); d != s {
			t.Errorf("Decimal(%d) = %q", want, d)
		}
	}
}

// P1.2: strings that are none; ErrSyntax comes before ErrRange.
func TestNumberErrors(t *testing.T) {
	for s, want := range map[string]api.Errno{
		"": api.ErrSyntax, "-": api.ErrSyntax, "--1": api.ErrSyntax, "+1": api.ErrSyntax, "+": api.ErrSyntax,
		"-0": api.ErrSyntax, "00": api.ErrSyntax, "01": api.ErrSyntax, "-01": api.ErrSyntax, "-00": api.ErrSyntax,
		" 1": api.ErrSyntax, "1 ": api.ErrSyntax, "1_0": api.ErrSyntax, "0x1": api.ErrSyntax, "1.0": api.ErrSyntax,
		"1e3": api.ErrSyntax, "a": api.ErrSyntax, "1a": api.ErrSyntax, "1-": api.ErrSyntax, "1\x00": api.ErrSyntax,
		"\u0661": api.ErrSyntax, "\xff": api.ErrSyntax, "1\n": api.ErrSyntax,
		"9223372036854775808": api.ErrRange, "-9223372036854775809": api.ErrRange,
		"10000000000000000000": api.ErrRange, "18446744073709551616": api.ErrRange, "-99999999999999999999999": api.ErrRange,
		"09223372036854775808": api.ErrSyntax, "-09223372036854775809": api.ErrSyntax, "99999999999999999999x": api.ErrSyntax,
	} {
		if n, e := text.Number(s); n != 0 || e != want {
			t.Errorf("Number(%q) = %d, %v, not %v", s, n, e, want)
		}
	}
}

// P1.5
func TestNumberAndDecimal(t *testing.T) {
	numbers := []int{math.MaxInt, math.MinInt, math.MaxInt32, math.MinInt32}
	for i := -1100; i <= 1100; i++ {
		numbers = append(numbers, i, i<<20, i<<53-i)
	}
	for _, n := range numbers {
		if m, e := text.Number(text.Decimal(n)); m != n || e != api.OK {
			t.Errorf("Number of Decimal of %d: %d, %v", n, m, e)
		}
	}
	accepted := 0
	for _, s := range shortStrings("-+019 a", 4) {
		if n, e := text.Number(s); e == api.OK {
			accepted++
			if text.Decimal(n) != s {
				t.Errorf("Decimal of Number of %q: %q", s, text.Decimal(n))
			}
		}
	}
	// 0, and with one to four digits 2 * 3^k, of which those with up to three have a negative one too.
	if want := 1 + 2*(2+6+18) + 54; accepted != want {
		t.Errorf("%d numbers of %d were accepted", accepted, want)
	}
}

// shortStrings returns the strings of at most n of some characters.
func shortStrings(chars string, n int) []string {
	all := []string{""}
	for from := 0; n > 0; n-- {
		to := len(all)
		for _, s := range all[from:to] {
			for _, c := range chars {
				all = append(all, s+string(c))
			}
		}
		from = to
	}
	return all
}

// P1.3
func TestWords(t *testing.T) {
	for s, want := range map[string][]string{
		"":                 nil,
		"a":                {"a"},
		"the dog":          {"the", "dog"},
		"a b c d":          {"a", "b", "c", "d"},
		"The \"dog\" \\ ~": {"The", "\"dog\"", "\\", "~"},
		"% not a comment":  {"%", "not", "a", "comment"},
	} {
		if l, e := text.Words(s); e != api.OK || !slices.Equal(l, want) {
			t.Errorf("Words(%q) = %q, %v", s, l, e)
		}
	}
	long := strings.Repeat("x", api.MaxText)
	if l, e := text.Words(long + " " + long); e != api.OK || !slices.Equal(l, []string{long, long}) {
		t.Errorf("Words of a long string: %d words, %v", len(l), e)
	}
}

// P1.3
func TestWordsErrors(t *testing.T) {
	for _, s := range []string{" ", "  ", " a", "a ", "a  b", "a b  c", "a b ", " a b", "a\tb", "a\nb", "a\r", "\x00", "a \x1f", "a\x7f", "\x80", "caf\u00e9", "\xff a", "a  b\n"} {
		if l, e := text.Words(s); e != api.ErrSyntax || len(l) != 0 {
			t.Errorf("Words(%q) = %q, %v", s, l, e)
		}
	}
	for i := range 256 {
		want := api.ErrSyntax
		if i > 32 && i <= 126 {
			want = api.OK
		}
		if _, e := text.Words(string([]byte{byte(i)})); e != want {
			t.Errorf("Words of the byte %d: %v", i, e)
		}
	}
}
