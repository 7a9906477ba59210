package walk

import (
	"math/bits"

	"confluence/api"
	"confluence/prefix"
)

// width is how many bits an address has.
const width = 32

// deepest is how much longer than its prefix Steps goes at most.
const deepest = 8

// Range is the fewest prefixes that have just the addresses from first to last.
func Range(first, last uint32) []api.Prefix {
	if first > last {
		return nil
	}
	return fill(nil, first, last)
}

// Ends is the first and the last address of p.
func Ends(p api.Prefix) (first, last uint32, ok bool) {
	if !prefix.Good(p) {
		return 0, 0, false
	}
	return p.Addr, p.Addr | ^prefix.Mask(p.Len), true
}

// Steps is p and what it covers that is at most depth longer, in order.
func Steps(p api.Prefix, depth int) []api.Prefix {
	if !prefix.Good(p) {
		return nil
	}
	return step(nil, p, min(max(depth, 0), deepest))
}

// step appends p, and what lies within it down to a depth.
func step(l []api.Prefix, p api.Prefix, depth int) []api.Prefix {
	l = append(l, p)
	low, high, ok := prefix.Halves(p)
	if !ok || depth == 0 {
		return l
	}
	return step(step(l, low, depth-1), high, depth-1)
}

// fill appends the fewest prefixes from first to last, where first is not above last.
func fill(l []api.Prefix, first, last uint32) []api.Prefix {
next:
	p := widest(first, last)
	l = append(l, p)
	// Behind the last address of all there is no next one, so the end is held against last ahead of going on.
	if _, end, _ := Ends(p); end < last {
		first = end + 1
		goto next
	}
	return l
}

// widest is the shortest prefix that begins with first and does not go beyond last.
func widest(first, last uint32) api.Prefix {
	// All addresses together are one more than an address can tell.
	room := bits.Len64(uint64(last-first)+1) - 1
	return api.Prefix{Addr: first, Len: width - min(room, bits.TrailingZeros32(first))}
}
