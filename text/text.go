// Package text tells names, numbers and lines of plain bytes; the document's chapter 1 says how.
package text

import "strconv"

// most is the greatest number that Number reads.
const most = 1 << 62

// Name tells whether all of s is one name.
func Name(s string) bool {
	return s != "" && NameLen(s, 0) == len(s)
}

// NameLen tells how many bytes of s, from at on, are a name.
func NameLen(s string, at int) int {
	if at < 0 || at >= len(s) || isDigit(s[at]) {
		return 0
	}
	end := at
	for end < len(s) && inName(s[end]) {
		end++
	}
	return end - at
}

// Digits tells n in decimal digits.
func Digits(n int) string {
	return strconv.Itoa(n)
}

// Number reads decimal digits; strconv is not asked, as it takes signs too.
func Number(s string) (int, bool) {
	if s == "" {
		return 0, false
	}
	n := 0
	for i := range len(s) {
		if !isDigit(s[i]) {
			return 0, false
		}
		d := int(s[i] - '0')
		// Held against most ahead of the step, so that n never goes round.
		if n > (most-d)/10 {
			return 0, false
		}
		n = n*10 + d
	}
	return n, true
}

// Lines tells the lines of s; a line feed at its end begins no further one.
func Lines(s string) []string {
	var lines []string
	begin := 0
	for i := range len(s) {
		if s[i] == '\n' {
			lines = append(lines, s[begin:i])
			begin = i + 1
		}
	}
	if begin < len(s) {
		lines = append(lines, s[begin:])
	}
	return lines
}

// isDigit knows the ten digits of ASCII alone, as the document's numbers are bytes.
func isDigit(c byte) bool {
	return '0' <= c && c <= '9'
}

// inName knows the letters of ASCII alone: a byte of a longer rune is none.
func inName(c byte) bool {
	return 'a' <= c && c <= 'z' || 'A' <= c && c <= 'Z' || c == '_' || isDigit(c)
}
