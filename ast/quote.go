package ast

import "strings"

// QuoteString returns the string literal of s.
func QuoteString(s string) string {
	quoted := []byte{'"'}
	for i := range len(s) {
		switch s[i] {
		case '\n':
			quoted = append(quoted, '\\', 'n')
		case '"', '\\':
			quoted = append(quoted, '\\', s[i])
		default:
			quoted = append(quoted, s[i])
		}
	}
	return string(append(quoted, '"'))
}

// unquote returns the value of a string literal, and where in the literal its
// unknown escape sequences start.
func unquote(literal string) (value string, unknown []int) {
	var text strings.Builder
	for i := 1; i < len(literal)-1; i++ {
		c := literal[i]
		if c == '\\' {
			i++
			c = literal[i]
			switch c {
			case 'n':
				c = '\n'
			case '"', '\\':
			default:
				unknown = append(unknown, i-1)
			}
		}
		text.WriteByte(c)
	}
	return text.String(), unknown
}
