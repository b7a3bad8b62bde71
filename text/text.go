// Package text is layer 1, words, names, numbers and tokens: see shared/doc/01-text.md.
package text

import (
	"slices"
	"strconv"
	"strings"

	"grammarlab/api"
)

// Name reports whether a string is the name of a type, an entry or a rule.
func Name(s string) bool {
	return named(s, isLower)
}

// Feature reports whether a string is a feature.
func Feature(s string) bool {
	return named(s, isUpper)
}

// named reports whether a string is a name that is written with these letters.
func named(s string, letter func(rune) bool) bool {
	n := nameLength(s, letter)
	return n > 0 && n == len(s) && n <= api.MaxName
}

// Word reports whether a string is a word of an input.
func Word(s string) bool {
	return s != "" && len(s) <= api.MaxName && prefix(s, inWord) == len(s)
}

// Number parses a decimal number.
func Number(s string) (int, api.Errno) {
	if !isDecimal(s) {
		return 0, api.ErrSyntax
	}
	n, err := strconv.Atoi(s)
	if err != nil {
		return 0, api.ErrRange
	}
	return n, api.OK
}

// isDecimal reports whether a string has the form of a number, however great.
func isDecimal(s string) bool {
	digits := strings.TrimPrefix(s, "-")
	if digits == "" || prefix(digits, isDigit) < len(digits) {
		return false
	}
	return s == "0" || digits[0] != '0'
}

// Decimal formats a number.
func Decimal(n int) string {
	return strconv.Itoa(n)
}

// Words returns the words of a line.
func Words(s string) ([]string, api.Errno) {
	if s == "" {
		return nil, api.OK
	}
	if prefix(s, isPrintable) < len(s) {
		return nil, api.ErrSyntax
	}
	words := strings.Split(s, " ")
	// A space at an end and two adjacent spaces leave an empty part.
	if slices.Contains(words, "") {
		return nil, api.ErrSyntax
	}
	return words, api.OK
}
