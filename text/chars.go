package text

// prefix returns the number of bytes before the first character that is not of a kind.
func prefix(s string, kind func(rune) bool) int {
	for i, c := range s {
		if !kind(c) {
			return i
		}
	}
	return len(s)
}

// nameLength returns the length of the longest name, written with these letters, with which a string begins, or 0.
func nameLength(s string, letter func(rune) bool) int {
	if s == "" || !letter(rune(s[0])) {
		return 0
	}
	return prefix(s, func(c rune) bool { return letter(c) || isDigit(c) || c == '-' })
}

func isLower(c rune) bool {
	return 'a' <= c && c <= 'z'
}

func isUpper(c rune) bool {
	return 'A' <= c && c <= 'Z'
}

func isDigit(c rune) bool {
	return '0' <= c && c <= '9'
}

func isPrintable(c rune) bool {
	return ' ' <= c && c <= '~'
}

func isSpace(c rune) bool {
	return c == ' ' || c == '\t' || c == '\r' || c == '\n'
}

func inWord(c rune) bool {
	return isPrintable(c) && c != ' ' && !isUpper(c) && c != '"' && c != '\\'
}

func inString(c rune) bool {
	return isPrintable(c) && c != '"'
}

func inComment(c rune) bool {
	return c != '\n'
}
