package lex

import (
	"strconv"
	"strings"

	"confluence/api"
)

// Name tells whether a text is a name.
func Name(s string) bool {
	if s == "" || len(s) > api.MaxName || !letter(s[0]) {
		return false
	}
	for i := 1; i < len(s); i++ {
		if !letter(s[i]) && !digit(s[i]) && s[i] != '-' && s[i] != '_' {
			return false
		}
	}
	return true
}

// Number reads a number up to most. strconv refuses signs, but not leading zeros: each number has one text.
func Number(s string, most int) (int, bool) {
	n, err := strconv.ParseUint(s, 10, strconv.IntSize-1)
	// What no int holds is above most, whatever most is.
	if err != nil || len(s) > 1 && s[0] == '0' || int(n) > most {
		return 0, false
	}
	return int(n), true
}

// Text writes texts in a row. strings.Join would hand out a single one itself, and not a copy.
func Text(l ...string) string {
	var row strings.Builder
	for i, s := range l {
		if i > 0 {
			row.WriteByte(' ')
		}
		row.WriteString(s)
	}
	return row.String()
}

// Join writes the words of lines, those without words too.
func Join(l []api.Line) string {
	var text strings.Builder
	for _, line := range l {
		var words []string
		for _, w := range line.Words {
			words = append(words, w.Text)
		}
		text.WriteString(Text(words...))
		text.WriteByte('\n')
	}
	return text.String()
}

// letter tells whether a byte is one of the letters of names.
func letter(c byte) bool {
	return c >= 'a' && c <= 'z' || c >= 'A' && c <= 'Z'
}

// digit tells whether a byte is a decimal digit.
func digit(c byte) bool {
	return c >= '0' && c <= '9'
}
