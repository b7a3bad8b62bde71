package text

import (
	"strings"

	"grammarlab/api"
)

// symbols are the symbols of one character.
const symbols = "()[]<>{},.;:=&|/#@"

// Scan returns the tokens of a source, or the line of an error.
func Scan(s string) ([]api.Token, int, api.Errno) {
	if len(s) > api.MaxText {
		return nil, 0, api.ErrTooLong
	}
	var tokens []api.Token
	line := 1
	for s != "" {
		if n := separator(s); n > 0 {
			line += strings.Count(s[:n], "\n")
			s = s[n:]
			continue
		}
		kind, n, e := first(s)
		if e != api.OK {
			return nil, line, e
		}
		text := s[:n]
		if kind == api.TokString {
			text = s[1 : n-1]
		}
		tokens = append(tokens, api.Token{Kind: kind, Text: text, Line: line})
		s = s[n:]
	}
	return tokens, 0, api.OK
}

// separator returns the length of the white space or of the comment with which a source begins.
func separator(s string) int {
	if s[0] == '%' {
		return prefix(s, inComment)
	}
	return prefix(s, isSpace)
}

// first returns the kind of the token with which a source begins, and its length.
func first(s string) (int, int, api.Errno) {
	if n := nameLength(s, isLower); n > 0 {
		return limited(api.TokName, n)
	}
	if n := nameLength(s, isUpper); n > 0 {
		return limited(api.TokFeature, n)
	}
	if n := numberLength(s); n > 0 {
		_, e := Number(s[:n])
		return api.TokNumber, n, e
	}
	if s[0] == '"' {
		return quoted(s)
	}
	if n := symbolLength(s); n > 0 {
		return api.TokSymbol, n, api.OK
	}
	return 0, 0, api.ErrSyntax
}

// limited returns the kind and the length of a name or a feature.
func limited(kind, n int) (int, int, api.Errno) {
	if n > api.MaxName {
		return 0, 0, api.ErrTooLong
	}
	return kind, n, api.OK
}

// numberLength returns the length of the longest number with which a source begins, or 0.
func numberLength(s string) int {
	digits := strings.TrimPrefix(s, "-")
	n := prefix(digits, isDigit)
	if n == 0 {
		return 0
	}
	return len(s) - len(digits) + n
}

// quoted returns the kind and the length of the string with which a source begins.
func quoted(s string) (int, int, api.Errno) {
	end := 1 + prefix(s[1:], inString)
	if end == len(s) {
		return 0, 0, api.ErrTruncated
	}
	if s[end] != '"' {
		return 0, 0, api.ErrSyntax
	}
	return api.TokString, end + 1, api.OK
}

// symbolLength returns the length of the longest symbol with which a source begins, or 0.
func symbolLength(s string) int {
	if strings.HasPrefix(s, "<!") || strings.HasPrefix(s, "!>") {
		return 2
	}
	if strings.IndexByte(symbols, s[0]) >= 0 {
		return 1
	}
	return 0
}
