package impl

import (
	"strconv"
	"strings"
)

const MaxText = 100000

const MaxTokens = 20000

const maxName = 12

func FormatInt(n int) string { return strconv.Itoa(n) }

// ParseInt writes the number again because Atoi also reads texts that
// FormatInt never writes: 007, +1 and -0.
func ParseInt(s string) (int, bool) {
	n, err := strconv.Atoi(s)
	if err != nil || FormatInt(n) != s {
		return 0, false
	}
	return n, true
}

func IsName(s string) bool {
	if s == "" || len(s) > maxName {
		return false
	}
	for i, r := range s {
		if isLetter(r) {
			continue
		}
		if i == 0 || !isDigit(r) && r != '-' {
			return false
		}
	}
	return true
}

func isLetter(r rune) bool { return 'a' <= r && r <= 'z' }

func isDigit(r rune) bool { return '0' <= r && r <= '9' }

func SplitLines(s string) []string {
	var lines []string
	start := 0
	for i, r := range s {
		if r == '\n' {
			lines = append(lines, s[start:i])
			start = i + 1
		}
	}
	if start < len(s) {
		lines = append(lines, s[start:])
	}
	return lines
}

func Join(l []string, by string) string { return joined(by, l...) }

// joined is variadic so that callers with a few parts at hand need no list.
func joined(by string, parts ...string) string {
	var b strings.Builder
	for i, part := range parts {
		if i > 0 {
			b.WriteString(by)
		}
		b.WriteString(part)
	}
	return b.String()
}

func Tokens(s string) ([]string, bool) {
	if len(s) > MaxText || !isPlainText(s) {
		return nil, false
	}
	tokens := splitTokens(s)
	if len(tokens) > MaxTokens {
		return nil, false
	}
	return tokens, true
}

// isPlainText may look at runes although the document speaks of bytes: a byte
// above 127 is part of a rune above 127 or decodes to U+FFFD.
func isPlainText(s string) bool {
	for _, r := range s {
		if r != '\n' && (r < 32 || r > 126) {
			return false
		}
	}
	return true
}

func splitTokens(s string) []string {
	var tokens []string
	start := 0
	inComment := false
	for i, r := range s {
		if inComment {
			inComment = r != '\n'
			start = i + 1
			continue
		}
		if !endsWord(r) {
			continue
		}
		if start < i {
			tokens = append(tokens, s[start:i])
		}
		if r == '(' || r == ')' {
			tokens = append(tokens, s[i:i+1])
		}
		inComment = r == ';'
		start = i + 1
	}
	if start < len(s) {
		tokens = append(tokens, s[start:])
	}
	return tokens
}

func endsWord(r rune) bool {
	switch r {
	case ' ', '\n', '(', ')', ';':
		return true
	}
	return false
}

func FormatInts(l []int) string {
	parts := make([]string, len(l))
	for i, n := range l {
		parts[i] = FormatInt(n)
	}
	return joined(" ", parts...)
}

func ParseInts(s string) ([]int, bool) {
	if s == "" {
		return nil, true
	}
	var l []int
	for _, part := range strings.Split(s, " ") {
		n, ok := ParseInt(part)
		if !ok {
			return nil, false
		}
		l = append(l, n)
	}
	return l, true
}
