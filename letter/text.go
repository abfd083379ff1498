package letter

import "strings"

// isBetween reports whether c stands between words, or at the end of a line.
func isBetween(c rune) bool { return c == ' ' || c == '\n' }

// textOf returns the text of a letter whose lines have at most width bytes.
func textOf(words []string, width int) string {
	var text strings.Builder
	line := 0
	for at, word := range words {
		switch {
		case at == 0:
		case line+1+len(word) <= width:
			text.WriteByte(' ')
			line++
		default:
			text.WriteByte('\n')
			line = 0
		}
		text.WriteString(word)
		line += len(word)
	}
	if len(words) > 0 {
		text.WriteByte('\n')
	}
	return text.String()
}
