package nlri_test

import (
	"bytes"
	"math"
	"slices"
	"testing"

	"confluence/api"
	"confluence/nlri"
)

// bad are prefixes that are not good: lengths outside 0 to 32, and bits behind the length.
var bad = []api.Prefix{
	{Len: -1}, {Len: -8}, {Len: 33}, {Len: 40}, {Len: 256}, {Len: 264}, {Len: math.MinInt}, {Len: math.MaxInt},
	{Addr: 0x0a000000, Len: -1}, {Addr: 0x0a000000, Len: 33}, {Addr: 0x0a000000, Len: 264},
	{Addr: 1, Len: 0}, {Addr: 1 << 31, Len: 0}, {Addr: 1, Len: 31}, {Addr: 0x0a000001, Len: 8},
	{Addr: 0x0a800000, Len: 8}, {Addr: 0x0a400000, Len: 9}, {Addr: math.MaxUint32, Len: 31},
}

// five are the prefixes of the example of Pack.
func five() []api.Prefix {
	return []api.Prefix{
		{Addr: 0x0a000000, Len: 8}, {}, {Addr: 0xc0a80180, Len: 25},
		{Addr: math.MaxUint32, Len: 32}, {Addr: 1 << 31, Len: 1},
	}
}

// all is the prefixes of some addresses, of every length.
func all() []api.Prefix {
	var l []api.Prefix
	for _, a := range []uint32{0, 1, 1 << 31, 0x0a000000, 0x01020304, 0xc0a80180, 0xaaaaaaaa, 0x55555555, 0x00ff00ff, math.MaxUint32} {
		for n := range 33 {
			l = append(l, api.Prefix{Addr: first(a, n), Len: n})
		}
	}
	return l
}

// first is the first n bits of an address; they are set one by one, so that they owe nothing to what they check.
func first(addr uint32, n int) uint32 {
	kept := uint32(0)
	for i := range n {
		kept |= addr & (1 << (31 - i))
	}
	return kept
}

// plain is the bytes of a good prefix, made bit by bit.
func plain(p api.Prefix) []byte {
	b := []byte{byte(p.Len)}
	for i := range p.Len {
		if i%8 == 0 {
			b = append(b, 0)
		}
		if p.Addr>>(31-i)&1 == 1 {
			b[len(b)-1] |= 128 >> (i % 8)
		}
	}
	return b
}

// plains is the bytes of good prefixes.
func plains(l ...api.Prefix) []byte {
	var b []byte
	for _, p := range l {
		b = append(b, plain(p)...)
	}
	return b
}

// unplain is the prefixes whose bytes b is, read bit by bit, and whether there are such.
func unplain(b []byte) (l []api.Prefix, ok bool) {
	for len(b) > 0 {
		p := api.Prefix{Len: int(b[0])}
		b = b[1:]
		used := 0
		for used*8 < p.Len {
			used++
		}
		if p.Len > 32 || used > len(b) {
			return nil, false
		}
		for i := range p.Len {
			p.Addr |= uint32(b[i/8]>>(7-i%8)&1) << (31 - i)
		}
		l, b = append(l, p), b[used:]
	}
	return l, true
}

// encodes reports where a list is not written as want.
func encodes(t *testing.T, want []byte, l ...api.Prefix) {
	t.Helper()
	if b, e := nlri.Encode(l...); !bytes.Equal(b, want) || e != api.OK {
		t.Errorf("%v: % x, not % x, %v", l, b, want, e)
	}
}

// decodes reports where bytes are not read as want.
func decodes(t *testing.T, b []byte, want ...api.Prefix) {
	t.Helper()
	if l, e := nlri.Decode(b); !slices.Equal(l, want) || e != api.OK {
		t.Errorf("% x: %v, not %v, %v", b, l, want, e)
	}
}

// notEncoded and notDecoded report where there is no refusal, or an answer beside it.
func notEncoded(t *testing.T, l ...api.Prefix) {
	t.Helper()
	if b, e := nlri.Encode(l...); b != nil || e != api.ErrArg {
		t.Errorf("%v: % x, %v", l, b, e)
	}
}

func notDecoded(t *testing.T, b ...byte) {
	t.Helper()
	if l, e := nlri.Decode(b); l != nil || e != api.ErrForm {
		t.Errorf("% x: %v, %v", b, l, e)
	}
}

// P7.1

func TestSize(t *testing.T) {
	for n, want := range map[int]int{
		0: 1, 1: 2, 2: 2, 7: 2, 8: 2, 9: 3, 10: 3, 15: 3, 16: 3, 17: 4, 23: 4, 24: 4, 25: 5, 26: 5, 31: 5, 32: 5,
	} {
		for _, a := range []uint32{0, 0x0a0b0c0d, math.MaxUint32} {
			if size := nlri.Size(api.Prefix{Addr: first(a, n), Len: n}); size != want {
				t.Errorf("%08x/%d: %d, not %d", a, n, size, want)
			}
		}
	}
	for _, p := range all() {
		if size := nlri.Size(p); size != len(plain(p)) {
			t.Error(p, size)
		}
	}
	for _, p := range bad {
		if size := nlri.Size(p); size != 0 {
			t.Error(p, size)
		}
	}
}

func TestEncode(t *testing.T) {
	encodes(t, nil)
	encodes(t, []byte{8, 10}, api.Prefix{Addr: 0x0a000000, Len: 8})
	encodes(t, []byte{0}, api.Prefix{})
	encodes(t, []byte{1, 0x80}, api.Prefix{Addr: 1 << 31, Len: 1})
	encodes(t, []byte{9, 10, 0x80}, api.Prefix{Addr: 0x0a800000, Len: 9})
	encodes(t, []byte{24, 1, 2, 3}, api.Prefix{Addr: 0x01020300, Len: 24})
	encodes(t, []byte{25, 1, 2, 3, 0x80}, api.Prefix{Addr: 0x01020380, Len: 25})
	encodes(t, []byte{32, 1, 2, 3, 4}, api.Prefix{Addr: 0x01020304, Len: 32})
	encodes(t, []byte{8, 10, 0, 25, 192, 168, 1, 128, 32, 255, 255, 255, 255, 1, 128}, five()...)
	encodes(t, []byte{0, 0, 8, 10, 0, 8, 10}, api.Prefix{}, api.Prefix{}, five()[0], api.Prefix{}, five()[0])
	for _, p := range all() {
		encodes(t, plain(p), p)
		encodes(t, plains(p, p), p, p)
	}
	encodes(t, plains(all()...), all()...)
}

func TestEncodeRefuses(t *testing.T) {
	for _, b := range bad {
		notEncoded(t, b)
		notEncoded(t, b, b)
		for i := range len(five()) + 1 {
			notEncoded(t, slices.Insert(five(), i, b)...)
		}
	}
}

func TestDecode(t *testing.T) {
	decodes(t, nil)
	decodes(t, []byte{})
	decodes(t, []byte{8, 10}, api.Prefix{Addr: 0x0a000000, Len: 8})
	decodes(t, []byte{9, 10, 0xff}, api.Prefix{Addr: 0x0a800000, Len: 9})
	decodes(t, []byte{9, 10, 0x7f}, api.Prefix{Addr: 0x0a000000, Len: 9})
	decodes(t, []byte{0}, api.Prefix{})
	decodes(t, []byte{0, 0, 8, 10, 0, 8, 10}, api.Prefix{}, api.Prefix{}, five()[0], api.Prefix{}, five()[0])
	decodes(t, []byte{1, 0xff, 24, 1, 2, 3, 25, 1, 2, 3, 0xff, 32, 1, 2, 3, 4},
		api.Prefix{Addr: 1 << 31, Len: 1}, api.Prefix{Addr: 0x01020300, Len: 24},
		api.Prefix{Addr: 0x01020380, Len: 25}, api.Prefix{Addr: 0x01020304, Len: 32})
	for _, p := range all() {
		decodes(t, plain(p), p)
		decodes(t, plains(p, p), p, p)
	}
	decodes(t, plains(all()...), all()...)
}

// Bits behind the length are of no weight, whichever they are, and whatever stands behind them.
func TestDecodeBits(t *testing.T) {
	for _, p := range all() {
		b := plain(p)
		for i := p.Len; i < 8*(len(b)-1); i++ {
			one, ones := bytes.Clone(b), bytes.Clone(b)
			one[1+i/8] |= 128 >> (i % 8)
			ones[1+i/8] |= 255 >> (p.Len % 8)
			decodes(t, one, p)
			decodes(t, ones, p)
			decodes(t, append(ones, one...), p, p)
			decodes(t, append(one, 8, 10), p, five()[0])
		}
	}
}

// A length above 32 is refused however many bytes stand behind it, at the first prefix and behind others.
func TestDecodeRefusesLengths(t *testing.T) {
	for n := 33; n < 256; n++ {
		for more := range 40 {
			b := append([]byte{byte(n)}, make([]byte, more)...)
			notDecoded(t, b...)
			notDecoded(t, append(plains(five()...), b...)...)
			notDecoded(t, append([]byte{0}, b...)...)
		}
	}
}

// A list that ends within a prefix is refused, at the first one and behind others; one that ends behind a prefix is not.
func TestDecodeRefusesEnds(t *testing.T) {
	for _, p := range all() {
		b := plain(p)
		for end := 1; end < len(b); end++ {
			notDecoded(t, b[:end]...)
			notDecoded(t, append(plains(five()...), b[:end]...)...)
			notDecoded(t, append(plain(p), b[:end]...)...)
		}
	}
	whole := plains(five()...)
	ends := map[int]int{0: 0, 2: 1, 3: 2, 8: 3, 13: 4, 15: 5}
	for end := range len(whole) + 1 {
		if n, ok := ends[end]; ok {
			decodes(t, whole[:end], five()[:n]...)
		} else {
			notDecoded(t, whole[:end]...)
		}
	}
}

// agrees reports bytes that are read otherwise than bit by bit, or that are not written again but for the bits behind the lengths.
func agrees(t *testing.T, b []byte) {
	t.Helper()
	want, ok := unplain(b)
	if !ok {
		notDecoded(t, b...)
		return
	}
	decodes(t, b, want...)
	encodes(t, plains(want...), want...)
	if len(plains(want...)) != len(b) {
		t.Errorf("% x: %v", b, want)
	}
}

// Every row of three bytes whose lengths and bits lie at the edges.
func TestDecodeRows(t *testing.T) {
	for n := range 1 << 16 {
		for _, last := range []byte{0, 1, 8, 32, 33, 255} {
			agrees(t, []byte{byte(n >> 8), byte(n), last})
		}
	}
	edges := []byte{0, 1, 8, 9, 24, 25, 32, 33}
	for n := range 1 << 18 {
		var b []byte
		for i := range 6 {
			b = append(b, edges[n>>(3*i)&7])
		}
		agrees(t, b)
	}
}

// P7.3

func TestRoundTrip(t *testing.T) {
	for _, p := range all() {
		for _, q := range append(five(), p, api.Prefix{Addr: p.Addr, Len: 32}) {
			for _, l := range [][]api.Prefix{{p}, {p, q}, {q, p}, {q, p, q}, {p, p, q}} {
				b, e := nlri.Encode(l...)
				if x, f := nlri.Decode(b); !slices.Equal(x, l) || e != api.OK || f != api.OK {
					t.Error(l, x, e, f)
				}
			}
		}
	}
	if b, _ := nlri.Encode(all()...); !bytes.Equal(b, plains(all()...)) {
		t.Errorf("% x", b)
	}
}

// Any bytes.
func FuzzDecode(f *testing.F) {
	f.Add([]byte{9, 10, 0xff})
	f.Add([]byte{33, 1, 2, 3, 4, 5})
	f.Add(plains(five()...))
	f.Add(plains(all()...))
	f.Fuzz(func(t *testing.T, b []byte) { agrees(t, b) })
}
