package asn

import (
	"strconv"
	"strings"

	"confluence/api"
)

// none is the text of an empty list.
const none = "-"

// Text writes the numbers of any list.
func Text(l []uint32) string {
	if len(l) == 0 {
		return none
	}
	var text []byte
	for i, n := range l {
		if i > 0 {
			text = append(text, ' ')
		}
		text = strconv.AppendUint(text, uint64(n), 10)
	}
	return string(text)
}

// Parse reads what Text writes, and nothing else.
func Parse(s string) ([]uint32, api.Errno) {
	if s == none {
		return nil, api.OK
	}
	var l []uint32
	for more := true; more; {
		var word string
		word, s, more = strings.Cut(s, " ")
		n, ok := number(word)
		if !ok {
			return nil, api.ErrForm
		}
		l = append(l, n)
	}
	return l, api.OK
}

// number reads digits. strconv refuses signs, but not leading zeros: each number has one text.
func number(s string) (uint32, bool) {
	n, err := strconv.ParseUint(s, 10, 32)
	if err != nil || len(s) > 1 && s[0] == '0' {
		return 0, false
	}
	return uint32(n), true
}
