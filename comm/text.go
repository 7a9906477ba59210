package comm

import (
	"iter"
	"strconv"
	"strings"

	"confluence/api"
	"confluence/asn"
)

// none is the text of an empty list.
const none = "-"

// Text writes the name of a well-known community, and the halves of any other one.
func Text(c uint32) string {
	switch c {
	case codeNoExport:
		return "no-export"
	case codeNoAdvertise:
		return "no-advertise"
	case codeNoSubconfed:
		return "no-export-subconfed"
	}
	as, n := Parts(c)
	return strconv.Itoa(int(as)) + ":" + strconv.Itoa(int(n))
}

// Parse reads what Text writes, and nothing else.
func Parse(s string) (uint32, api.Errno) {
	c, ok := named(s)
	if !ok {
		c, ok = halves(s)
	}
	// Leading zeros, and the halves of what has a name, are no second text.
	if !ok || Text(c) != s {
		return 0, api.ErrForm
	}
	return c, api.OK
}

// named finds the well-known community of a name.
func named(s string) (uint32, bool) {
	for c := codeNoExport; Known(c); c++ {
		if Text(c) == s {
			return c, true
		}
	}
	return 0, false
}

// halves reads two numbers of 16 bits and the colon between them; it minds no leading zeros.
func halves(s string) (uint32, bool) {
	left, right, colon := strings.Cut(s, ":")
	as, wrongAs := strconv.ParseUint(left, 10, half)
	n, wrongN := strconv.ParseUint(right, 10, half)
	if !colon || wrongAs != nil || wrongN != nil {
		return 0, false
	}
	return Make(uint16(as), uint16(n)), true
}

// Texts writes the communities of any list.
func Texts(l []uint32) string {
	if len(l) == 0 {
		return none
	}
	var text []byte
	for i, c := range l {
		if i > 0 {
			text = append(text, ' ')
		}
		text = append(text, Text(c)...)
	}
	return string(text)
}

// ParseAll reads what Texts writes of a set, and nothing else.
func ParseAll(s string) ([]uint32, api.Errno) {
	if s == none {
		return nil, api.OK
	}
	var l []uint32
	for c, e := range each(s) {
		if e != api.OK {
			return nil, e
		}
		l = append(l, c)
	}
	// Any other order, or one told twice, would be a second text of one set.
	if !asn.Is(l) {
		return nil, api.ErrForm
	}
	return l, api.OK
}

// each goes through a text word by word, as Parse reads the words.
func each(s string) iter.Seq2[uint32, api.Errno] {
	return func(yield func(uint32, api.Errno) bool) {
		rest, more := s, true
		for more {
			var word string
			word, rest, more = strings.Cut(rest, " ")
			if !yield(Parse(word)) {
				return
			}
		}
	}
}
