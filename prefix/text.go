package prefix

import (
	"strconv"
	"strings"

	"confluence/api"
)

// Addr writes the four bytes of an address, separated by points.
func Addr(addr uint32) string {
	text := ""
	for shift := width - 8; shift >= 0; shift -= 8 {
		text += strconv.Itoa(int(addr >> shift & 255))
		if shift > 0 {
			text += "."
		}
	}
	return text
}

// Text writes a good prefix; any other one has no text.
func Text(p api.Prefix) string {
	if !Good(p) {
		return ""
	}
	return Addr(p.Addr) + "/" + strconv.Itoa(p.Len)
}

// ParseAddr reads what Addr writes, and nothing else.
func ParseAddr(s string) (uint32, api.Errno) {
	addr := uint32(0)
	for shift := width - 8; shift >= 0; shift -= 8 {
		part, rest, point := strings.Cut(s, ".")
		n, ok := number(part, 255)
		// A point stands behind every byte but the last one.
		if !ok || point != (shift > 0) {
			return 0, api.ErrForm
		}
		addr |= uint32(n) << shift
		s = rest
	}
	return addr, api.OK
}

// Parse reads what Text writes, and nothing else.
func Parse(s string) (api.Prefix, api.Errno) {
	left, right, _ := strings.Cut(s, "/")
	addr, e := ParseAddr(left)
	n, ok := number(right, width)
	p := api.Prefix{Addr: addr, Len: n}
	// Bits behind the length are refused, not cut off: each prefix has one text.
	if e != api.OK || !ok || !Good(p) {
		return api.Prefix{}, api.ErrForm
	}
	return p, api.OK
}

// number reads digits up to most, at most three of them. strconv would also take signs and leading zeros.
func number(s string, most int) (int, bool) {
	if s == "" || len(s) > 3 || len(s) > 1 && s[0] == '0' {
		return 0, false
	}
	n := 0
	for i := 0; i < len(s); i++ {
		if s[i] < '0' || s[i] > '9' {
			return 0, false
		}
		n = n*10 + int(s[i]-'0')
	}
	if n > most {
		return 0, false
	}
	return n, true
}
