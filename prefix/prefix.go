// Package prefix is layer 1: IPv4 addresses and prefixes: see DOC.md and doc/01-prefix.md.
package prefix

import (
	"cmp"
	"math/bits"

	"confluence/api"
)

// width is how many bits an address has.
const width = 32

// Mask has the highest n bits set; n is clamped to 0..32.
func Mask(n int) uint32 {
	n = min(max(n, 0), width)
	return ^uint32(0) << (width - n)
}

// Good tells whether the length fits and no bit behind it is set.
func Good(p api.Prefix) bool {
	return fits(p.Len) && p.Addr&^Mask(p.Len) == 0
}

// Make keeps the first n bits of an address.
func Make(addr uint32, n int) (api.Prefix, api.Errno) {
	if !fits(n) {
		return api.Prefix{}, api.ErrArg
	}
	return cut(addr, n), api.OK
}

// Bit is one bit of an address; the highest one has the index 0.
func Bit(addr uint32, i int) int {
	if i < 0 || i >= width {
		return 0
	}
	return int(addr >> (width - 1 - i) & 1)
}

// Has tells whether an address begins with p.
func Has(p api.Prefix, addr uint32) bool {
	return Good(p) && addr&Mask(p.Len) == p.Addr
}

// Covers tells whether all addresses of q are addresses of p.
func Covers(p, q api.Prefix) bool {
	return Good(q) && p.Len <= q.Len && Has(p, q.Addr)
}

// Within tells whether q covers p and is a different prefix.
func Within(p, q api.Prefix) bool {
	return p != q && Covers(q, p)
}

// Cmp orders by address, then by length.
func Cmp(p, q api.Prefix) int {
	if !Good(p) || !Good(q) {
		return 0
	}
	if p.Addr != q.Addr {
		return cmp.Compare(p.Addr, q.Addr)
	}
	return cmp.Compare(p.Len, q.Len)
}

// Common is the longest prefix that covers both.
func Common(p, q api.Prefix) api.Prefix {
	if !Good(p) || !Good(q) {
		return api.Prefix{}
	}
	alike := bits.LeadingZeros32(p.Addr ^ q.Addr)
	return cut(p.Addr, min(p.Len, q.Len, alike))
}

// Halves parts a prefix in two; a single address has no halves.
func Halves(p api.Prefix) (low, high api.Prefix, ok bool) {
	if !Good(p) || p.Len == width {
		return api.Prefix{}, api.Prefix{}, false
	}
	n := p.Len + 1
	next := uint32(1) << (width - n)
	return api.Prefix{Addr: p.Addr, Len: n}, api.Prefix{Addr: p.Addr | next, Len: n}, true
}

func fits(n int) bool {
	return n >= 0 && n <= width
}

func cut(addr uint32, n int) api.Prefix {
	return api.Prefix{Addr: addr & Mask(n), Len: n}
}
