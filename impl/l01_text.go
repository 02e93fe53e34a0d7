package impl

import (
	"strconv"
	"strings"
)

// maxPadding keeps a huge n from asking for more memory than there is.
const maxPadding = 2000

const maxNameBytes = 8

func FormatInt(n int) string {
	return strconv.Itoa(n)
}

func ParseInt(s string) (int, bool) {
	n, err := strconv.Atoi(s)
	// Atoi also accepts texts that FormatInt never writes: "+1", "-0", "07".
	if err != nil || FormatInt(n) != s {
		return 0, false
	}
	return n, true
}

// The scans below go rune by rune although strings are arbitrary bytes: a byte
// above 127 never takes part in a rune below 128, so runes below 128 are bytes.

func isDigit(r rune) bool {
	return '0' <= r && r <= '9'
}

func isSmallLetter(r rune) bool {
	return 'a' <= r && r <= 'z'
}

func IsDigits(s string) bool {
	for _, r := range s {
		if !isDigit(r) {
			return false
		}
	}
	return s != ""
}

func IsName(s string) bool {
	if s == "" || len(s) > maxNameBytes {
		return false
	}
	for i, r := range s {
		if !isSmallLetter(r) && (i == 0 || !isDigit(r)) {
			return false
		}
	}
	return true
}

func SplitAny(s string, by string) []string {
	// Both are taken as bytes, not runes: a byte of by may be inside a rune of s.
	var splits [256]bool
	for i := range len(by) {
		splits[by[i]] = true
	}
	var parts []string
	start := 0
	for i := range len(s) {
		if splits[s[i]] {
			parts = append(parts, s[start:i])
			start = i + 1
		}
	}
	return append(parts, s[start:])
}

func SplitLines(s string) []string {
	var lines []string
	start := 0
	for i, r := range s {
		if r == '\n' {
			lines = append(lines, s[start:i])
			start = i + 1
		}
	}
	if start < len(s) {
		lines = append(lines, s[start:])
	}
	return lines
}

func Join(l []string, by string) string {
	return joinParts(by, l...)
}

// Callers with single parts need not build a list for Join.
func joinParts(by string, parts ...string) string {
	return strings.Join(parts, by)
}

func PadZeros(s string, n int) string {
	if len(s) >= n || n > maxPadding {
		return s
	}
	return joinParts("", strings.Repeat("0", n-len(s)), s)
}
