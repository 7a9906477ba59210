package attr_test

import (
	"bytes"
	"math"
	"slices"
	"testing"

	"confluence/api"
	"confluence/attr"
	"confluence/path"
)

// plainDecode reads attributes by places in the list, each rule as the chapter tells it: it owes nothing to what it checks but the path's normal form.
func plainDecode(b []byte) (api.Attrs, api.Notice) {
	var a api.Attrs
	kinds := map[byte]bool{}
	for at := 0; at < len(b); {
		bare := func(sub int) (api.Attrs, api.Notice) { return api.Attrs{}, api.Notice{Code: 3, Sub: sub} }
		header := 3
		if b[at]&16 != 0 {
			header = 4
		}
		if at+header > len(b) {
			return bare(1)
		}
		flags, kind, size := b[at], b[at+1], int(b[at+header-1])
		if header == 4 {
			size += int(b[at+2]) * 256
		}
		end := at + header + size
		if end > len(b) || kinds[kind] {
			return bare(1)
		}
		kinds[kind] = true
		value, all := b[at+header:end], b[at:end]
		at = end
		told := func(sub int) (api.Attrs, api.Notice) {
			return api.Attrs{}, api.Notice{Code: 3, Sub: sub, Data: bytes.Clone(all)}
		}
		if kind < 1 || kind > 8 {
			if flags < 128 {
				return told(2)
			}
			continue
		}
		if !plainFlags(flags, kind) {
			return told(4)
		}
		if !plainLength(kind, size) {
			return told(5)
		}
		a.Has |= 1 << kind
		switch kind {
		case 1:
			if a.Origin = int(value[0]); a.Origin > 2 {
				return told(6)
			}
		case 2:
			l, ok := plainSegs(value)
			if !ok {
				return bare(11)
			}
			a.Path = l
		case 3:
			if a.Hop = number(value); a.Hop == 0 || a.Hop >= 0xe0000000 && a.Hop <= 0xefffffff || a.Hop == 0xffffffff {
				return told(8)
			}
		case 4:
			a.Med = number(value)
		case 5:
			a.Pref = number(value)
		case 7:
			a.AggAS, a.AggID = number(value), number(value[4:])
		case 8:
			for ; len(value) > 0; value = value[4:] {
				a.Comms = append(a.Comms, number(value))
			}
			slices.Sort(a.Comms)
			a.Comms = slices.Compact(a.Comms)
		}
	}
	return a, api.Notice{}
}

// plainFlags tells whether a type has these flags, plainLength whether it may have so many bytes.
func plainFlags(flags, kind byte) bool {
	switch kind {
	case 4:
		return flags == 128 || flags == 128+16
	case 7, 8:
		return flags == 192 || flags == 192+16 || flags == 192+32 || flags == 192+32+16
	}
	return flags == 64 || flags == 64+16
}
func plainLength(kind byte, size int) bool {
	switch kind {
	case 1:
		return size == 1
	case 2:
		return true
	case 6:
		return size == 0
	case 7:
		return size == 8
	case 8:
		return size%4 == 0 && size <= 1020
	}
	return size == 4
}

// plainSegs is the normal form of a path's value, if there may be such a path.
func plainSegs(b []byte) ([]api.Seg, bool) {
	var l []api.Seg
	n := 0
	for len(b) > 0 {
		if b[0] < 1 || b[0] > 2 || len(b) < 2 || b[1] == 0 || len(b) < 2+4*int(b[1]) {
			return nil, false
		}
		s := other(int(b[0]))
		for i := range int(b[1]) {
			s.AS = append(s.AS, number(b[2+4*i:]))
		}
		l, b, n = append(l, s), b[2+4*int(b[1]):], n+int(b[1])
	}
	l = path.Norm(l)
	return l, len(l) <= 100 && n <= 2000
}

// number is the number in the first four bytes.
func number(b []byte) uint32 {
	return uint32(b[0])<<24 + uint32(b[1])<<16 + uint32(b[2])<<8 + uint32(b[3])
}

// decodes reports bytes that are not read as attributes.
func decodes(t *testing.T, b []byte, want api.Attrs) {
	t.Helper()
	a, n := attr.Decode(b)
	if tell(a) != tell(want) || n.Code != 0 || n.Sub != 0 || n.Data != nil {
		t.Errorf("% x: %s, %v, not %s", b, tell(a), n, tell(want))
	}
}

// faults reports bytes that have not the fault that is told, with these Data.
func faults(t *testing.T, b []byte, sub int, data ...byte) {
	t.Helper()
	a, n := attr.Decode(b)
	if tell(a) != tell(api.Attrs{}) || n.Code != 3 || n.Sub != sub || !bytes.Equal(n.Data, data) {
		t.Errorf("% x: %s, %v, not %d % x", b, tell(a), n, sub, data)
	}
}

// agrees reports bytes that are read otherwise than plainly.
func agrees(t *testing.T, b []byte) {
	t.Helper()
	want, n := plainDecode(b)
	if n.Code == 0 {
		decodes(t, b, want)
	} else {
		faults(t, b, n.Sub, n.Data...)
	}
}

// join is lists of bytes one behind the other.
func join(l ...[]byte) []byte {
	return slices.Concat(l...)
}

// P8.3

// None at all, and each one alone, with a length in one byte and in two that would fit in one.
func TestDecodeOne(t *testing.T) {
	decodes(t, nil, api.Attrs{})
	decodes(t, []byte{}, api.Attrs{})
	for _, size := range []func(flags, kind int, value ...byte) []byte{short, lengthy} {
		for n := range 3 {
			decodes(t, size(0x40, 1, byte(n)), api.Attrs{Has: origin, Origin: n})
		}
		decodes(t, size(0x40, 2), api.Attrs{Has: pathed})
		decodes(t, size(0x40, 2, 2, 1, 0, 0, 0, 9), api.Attrs{Has: pathed, Path: way(seq(9))})
		decodes(t, size(0x40, 3, 10, 0, 1, 2), api.Attrs{Has: hop, Hop: 0x0a000102})
		decodes(t, size(0x80, 4, 0, 0, 0, 0), api.Attrs{Has: med})
		decodes(t, size(0x80, 4, 0xf1, 2, 3, 4), api.Attrs{Has: med, Med: 0xf1020304})
		decodes(t, size(0x40, 5, 1, 0xf2, 3, 4), api.Attrs{Has: pref, Pref: 0x01f20304})
		decodes(t, size(0x40, 6), api.Attrs{Has: atomic})
		decodes(t, size(0xc0, 7, 1, 2, 3, 4, 5, 6, 7, 8), api.Attrs{Has: aggregator, AggAS: 0x01020304, AggID: 0x05060708})
		decodes(t, size(0xe0, 7, 1, 2, 3, 4, 5, 6, 7, 8), api.Attrs{Has: aggregator, AggAS: 0x01020304, AggID: 0x05060708})
		decodes(t, size(0xc0, 8), api.Attrs{Has: comms})
		decodes(t, size(0xe0, 8, 0, 0, 0, 1), api.Attrs{Has: comms, Comms: []uint32{1}})
	}
}

// What others write may be in any order, and becomes the normal form: the flag 32 is not kept.
func TestDecodeNorm(t *testing.T) {
	a := full()
	b := join(
		lengthy(0xe0, 8, four(a.Comms[2], 0, a.Comms[1], a.Comms[2], 0)...), short(0xe0, 7, four(a.AggAS, a.AggID)...), lengthy(0x40, 6),
		lengthy(0x80, 4, four(a.Med)...), short(0x40, 5, four(a.Pref)...), short(0x40, 3, four(a.Hop)...),
		lengthy(0x40, 2, plainPath(seq(1), seq(2), set(4, 3, 4), seq(5))...), short(0x40, 1, 1),
	)
	decodes(t, b, a)
	// More segments than there may be, which become fewer.
	decodes(t, plain(0x40, 2, plainPath(slices.Repeat(way(seq(7)), 300)...)...), api.Attrs{Has: pathed, Path: way(seq(slices.Repeat([]uint32{7}, 255)...), seq(slices.Repeat([]uint32{7}, 45)...))})
}

// What is none of the eight is skipped if one need not know it, whatever its value is.
func TestDecodeSkips(t *testing.T) {
	for _, kind := range []int{0, 9, 10, 16, 64, 128, 254, 255} {
		for flags := range 256 {
			for _, value := range [][]byte{nil, {1}, bytes.Repeat([]byte{0xff}, 255)} {
				one := join([]byte{byte(flags), byte(kind)}, lengthy(flags, kind, value...)[2:])
				if flags&16 == 0 {
					one = short(flags, kind, value...)
				}
				b := join(short(0x40, 1, 2), one, short(0x40, 6))
				if flags >= 128 {
					decodes(t, b, api.Attrs{Has: origin + atomic, Origin: 2})
				} else {
					faults(t, b, 2, one...)
				}
			}
		}
		for _, size := range []int{256, 1021, 65535} {
			decodes(t, join(lengthy(0x80, kind, make([]byte, size)...), short(0x40, 6)), api.Attrs{Has: atomic})
			faults(t, lengthy(0x40, kind, make([]byte, size)...), 2, lengthy(0x40, kind, make([]byte, size)...)...)
		}
	}
	decodes(t, join(short(0x80, 0), short(0x80, 9), short(0xff&^16, 200, 7), short(0xc0, 255)), api.Attrs{})
}

// Each of the eight errors alone.
func TestDecodeFaults(t *testing.T) {
	faults(t, []byte{0x40, 1, 2, 0}, 1)
	faults(t, []byte{0x40, 6, 0, 0x40, 6, 0}, 1)
	faults(t, []byte{0x40, 9, 1, 7}, 2, 0x40, 9, 1, 7)
	faults(t, []byte{0xc0, 1, 1, 0}, 4, 0xc0, 1, 1, 0)
	faults(t, []byte{0x40, 1, 0}, 5, 0x40, 1, 0)
	faults(t, []byte{0x40, 1, 1, 3}, 6, 0x40, 1, 1, 3)
	faults(t, []byte{0x40, 2, 2, 2, 0}, 11)
	faults(t, []byte{0x40, 3, 4, 0, 0, 0, 0}, 8, 0x40, 3, 4, 0, 0, 0, 0)
	// The same behind a good one, and ahead of one, and with a length in two bytes.
	for _, x := range []struct {
		kind, flags, sub int
		value            []byte
		bare             bool
	}{
		{9, 0x40, 2, []byte{7}, false}, {0, 0x00, 2, nil, false}, {1, 0xc0, 4, []byte{0}, false}, {1, 0x40, 5, nil, false}, {1, 0x40, 6, []byte{3}, false},
		{2, 0x40, 11, []byte{2, 0}, true}, {3, 0x40, 8, four(0), false}, {8, 0xc0, 5, []byte{1}, false},
	} {
		for _, size := range []func(flags, kind int, value ...byte) []byte{short, lengthy} {
			one := size(x.flags, x.kind, x.value...)
			data := one
			if x.bare {
				data = nil
			}
			faults(t, one, x.sub, data...)
			faults(t, join(short(0x40, 5, 1, 2, 3, 4), one, short(0x40, 6)), x.sub, data...)
		}
	}
}

func TestDecodeOrigins(t *testing.T) {
	for n := range 256 {
		if n <= 2 {
			decodes(t, short(0x40, 1, byte(n)), api.Attrs{Has: origin, Origin: n})
			continue
		}
		faults(t, short(0x40, 1, byte(n)), 6, 0x40, 1, 1, byte(n))
		faults(t, lengthy(0x40, 1, byte(n)), 6, 0x50, 1, 0, 1, byte(n))
	}
}

func TestDecodeHops(t *testing.T) {
	for _, n := range []uint32{1, 0x0a000001, 0xdfffffff, 0xf0000000, 0xfffffffe} {
		decodes(t, short(0x40, 3, four(n)...), api.Attrs{Has: hop, Hop: n})
	}
	for _, n := range []uint32{0, 0xe0000000, 0xe0000001, 0xefffffff, math.MaxUint32} {
		faults(t, short(0x40, 3, four(n)...), 8, short(0x40, 3, four(n)...)...)
	}
}

func TestDecodePaths(t *testing.T) {
	bad := func(value ...byte) {
		t.Helper()
		faults(t, short(0x40, 2, value...), 11)
		faults(t, lengthy(0x40, 2, value...), 11)
	}
	bad(0)
	bad(2)
	bad(2, 0)
	bad(1, 0)
	bad(0, 1, 0, 0, 0, 1)
	bad(3, 1, 0, 0, 0, 1)
	bad(2, 1, 0, 0, 0)
	bad(2, 2, 0, 0, 0, 1)
	bad(2, 1, 0, 0, 0, 1, 1)
	bad(2, 1, 0, 0, 0, 1, 2, 0)
	// As many segments and numbers as there may be, and one more of each.
	for size := range 103 {
		l := slices.Repeat(way(set(7)), size)
		if size <= 100 {
			decodes(t, plain(0x40, 2, plainPath(l...)...), api.Attrs{Has: pathed, Path: l})
		} else {
			faults(t, plain(0x40, 2, plainPath(l...)...), 11)
		}
	}
	for _, size := range []int{255, 256, 1785, 1999, 2000, 2001, 2040, 2041, 9000} {
		if size <= 2000 {
			decodes(t, plain(0x40, 2, plainPath(long(size)...)...), api.Attrs{Has: pathed, Path: long(size)})
		} else {
			faults(t, plain(0x40, 2, plainPath(long(size)...)...), 11)
		}
	}
	// Numbers are those that are told, though a set has fewer.
	sets := slices.Repeat(way(set(slices.Repeat([]uint32{7}, 250)...)), 8)
	decodes(t, plain(0x40, 2, plainPath(sets...)...), api.Attrs{Has: pathed, Path: slices.Repeat(way(set(7)), 8)})
	faults(t, plain(0x40, 2, plainPath(append(sets, set(7))...)...), 11)
}

func TestDecodeComms(t *testing.T) {
	for size := range 260 {
		b := plain(0xc0, 8, four(count(1, size)...)...)
		if size <= 255 {
			decodes(t, b, api.Attrs{Has: comms, Comms: count(1, size)})
		} else {
			faults(t, b, 5, b...)
		}
	}
	// Those that come twice count twice ahead of the set.
	twice := slices.Repeat([]uint32{9, 7, 8}, 85)
	decodes(t, plain(0xc0, 8, four(twice...)...), api.Attrs{Has: comms, Comms: []uint32{7, 8, 9}})
	b := plain(0xe0, 8, four(append(twice, 7)...)...)
	faults(t, b, 5, b...)
}

// Every length of every type: the one or those that are required, one fewer, one more, and all others.
func TestDecodeLengths(t *testing.T) {
	for kind := 1; kind <= 8; kind++ {
		for size := range 1030 {
			value := bytes.Repeat([]byte{1}, size)
			b := plain(attr.Flags(kind), kind, value...)
			agrees(t, b)
			agrees(t, lengthy(attr.Flags(kind), kind, value...))
			if kind != 2 && !plainLength(byte(kind), size) {
				faults(t, b, 5, b...)
			}
		}
	}
}

// Every flag of every type, with a value that is right and with one that is not.
func TestDecodeFlags(t *testing.T) {
	values := [][]byte{{}, {0}, {}, four(1), four(1), four(1), {}, four(1, 2), four(1, 2), {7}}
	for kind, value := range values {
		for flags := range 256 {
			for _, v := range [][]byte{value, append(bytes.Clone(value), 9)} {
				b := short(flags, kind, v...)
				if flags&16 != 0 {
					b = lengthy(flags, kind, v...)
				}
				agrees(t, b)
				if kind >= 1 && kind <= 8 && flags&^16 != attr.Flags(kind) && (kind < 7 || flags&^16 != 0xe0) {
					faults(t, b, 4, b...)
				}
			}
		}
	}
}

// What is cut anywhere but where one ends lacks bytes, in the header or in the value.
func TestDecodeCut(t *testing.T) {
	for _, items := range [][][]byte{
		{short(0x40, 1, 1), short(0x40, 2, 2, 1, 0, 0, 0, 9), short(0x40, 3, 10, 0, 0, 1), short(0x80, 4, 1, 2, 3, 4), short(0x40, 5, 1, 2, 3, 4), short(0x40, 6), short(0xc0, 7, 1, 2, 3, 4, 5, 6, 7, 8), short(0xc0, 8, 1, 2, 3, 4)},
		{lengthy(0x40, 1, 1), lengthy(0x40, 2, 2, 1, 0, 0, 0, 9), lengthy(0x40, 3, 10, 0, 0, 1), lengthy(0x40, 6), lengthy(0xe0, 7, 1, 2, 3, 4, 5, 6, 7, 8)},
		{short(0x80, 77, 1, 2), lengthy(0x80, 78, 1, 2), short(0x80, 79, make([]byte, 255)...), lengthy(0x80, 80, make([]byte, 256)...)},
	} {
		b := join(items...)
		ends := []int{0}
		for _, x := range items {
			ends = append(ends, ends[len(ends)-1]+len(x))
		}
		for size := range len(b) + 1 {
			if slices.Contains(ends, size) {
				agrees(t, b[:size])
			} else {
				faults(t, b[:size], 1)
			}
		}
	}
	// Being cut comes ahead of everything that is wrong of the same one.
	faults(t, []byte{0x00, 1, 2, 7}, 1)
	faults(t, []byte{0x00, 99, 1}, 1)
	faults(t, []byte{0x40, 2, 5, 2, 0, 2, 0}, 1)
	faults(t, []byte{0x50, 1, 1, 0, 0}, 1)
	faults(t, []byte{0xff, 0xff, 0xff, 0xff}, 1)
}

// A type that comes twice, be it one of the eight or not, with other flags and another value or the same.
func TestDecodeTwice(t *testing.T) {
	for kind, value := range [][]byte{{}, {0}, {}, four(1), four(1), four(1), {}, four(1, 2), four(1, 2), {7}} {
		flags := attr.Flags(kind)
		if flags == 0 {
			flags = 0x80
		}
		one := short(flags, kind, value...)
		between := short(0x80, 100, 5)
		for _, again := range [][]byte{one, lengthy(flags, kind, value...), short(flags, kind, 9, 9, 9), short(flags^0xc0, kind, value...), short(0, kind)} {
			faults(t, join(one, again), 1)
			faults(t, join(one, between, again), 1)
			faults(t, join(between, one, again, between), 1)
		}
	}
	for kind := range 256 {
		if kind < 1 || kind > 8 {
			faults(t, join(short(0x80, kind), short(0x80, kind)), 1)
			faults(t, join(short(0x80, kind), short(0x00, kind)), 1)
			decodes(t, join(short(0x80, kind), short(0x80, (kind+100)%200+9, 1)), api.Attrs{})
		}
	}
}

// Two errors in one attribute: the one that the chapter names first counts.
func TestDecodeOrder(t *testing.T) {
	for _, x := range []struct {
		sub int
		b   []byte
	}{
		{4, short(0xc0, 1, 3)}, {4, short(0x80, 1)}, {4, short(0x60, 3, 0, 0, 0, 0)}, {4, short(0x41, 5)}, {4, short(0x00, 3, 1)}, {4, short(0x80, 8, 1)}, {4, short(0xa0, 4, 1, 2)},
		{5, short(0x40, 1, 3, 3)}, {5, short(0x40, 3, 0, 0, 0)}, {5, short(0x40, 3, 0, 0, 0, 0, 0)}, {5, short(0x40, 3, 0xff, 0xff, 0xff, 0xff, 0xff)},
		{4, short(0x80, 2, 2, 0)}, {4, short(0x60, 2, 9)},
	} {
		faults(t, x.b, x.sub, x.b...)
	}
}

// items are attributes of every sort: right ones, others that are skipped, and some with each error.
func items() [][]byte {
	return [][]byte{
		short(0x40, 1, 0), lengthy(0x40, 1, 2), short(0x40, 1, 3), short(0xc0, 1, 3), short(0x40, 1), {0x40, 1}, {0x40, 1, 1},
		short(0x40, 2), short(0x40, 2, plainPath(seq(1), seq(2), set(2, 1))...), short(0x40, 2, 2, 0), short(0x80, 2, 2, 0), {0x50, 2, 0},
		short(0x40, 3, 10, 0, 0, 1), short(0x40, 3, 0, 0, 0, 0), short(0x40, 3, 0, 0, 0), {0x40, 3, 4, 10, 0, 0},
		short(0x80, 4, 1, 2, 3, 4), short(0x40, 4, 1, 2, 3, 4), short(0x40, 5, 1, 2, 3, 4), short(0x40, 6), short(0x40, 6, 0),
		short(0xe0, 7, 1, 2, 3, 4, 5, 6, 7, 8), short(0xa0, 7), short(0xc0, 8, four(9, 8, 9)...), short(0xc0, 8, 1),
		short(0x80, 9, 1), short(0x40, 9, 1), short(0x80, 0), short(0x00, 0),
	}
}

// Every row of up to three attributes, right ones and wrong ones: the first error counts.
func TestDecodeRows(t *testing.T) {
	agrees(t, nil)
	for _, x := range items() {
		agrees(t, x)
		for _, y := range items() {
			agrees(t, join(x, y))
			for _, z := range items() {
				agrees(t, join(x, y, z))
			}
		}
	}
}

// P8.4

func TestWell(t *testing.T) {
	well := func(a api.Attrs, want ...byte) {
		t.Helper()
		n := attr.Well(a)
		if len(want) == 0 && (n.Code != 0 || n.Sub != 0 || n.Data != nil) || len(want) > 0 && (n.Code != 3 || n.Sub != 3 || !bytes.Equal(n.Data, want)) {
			t.Errorf("%s: %v, not % x", tell(a), n, want)
		}
	}
	well(some(origin+hop), 2)
	well(api.Attrs{}, 1)
	well(full())
	for bits := range 1 << 10 {
		var want []byte
		for kind := 3; kind >= 1; kind-- {
			if bits&(1<<kind) == 0 {
				want = []byte{byte(kind)}
			}
		}
		// What is set does not matter, nor do bits that none of the eight has.
		well(api.Attrs{Has: bits}, want...)
		well(holds(bits, whole), want...)
		well(api.Attrs{Has: bits | math.MinInt}, want...)
	}
	well(api.Attrs{Has: -1})
}

// P8.5

func TestRoundTrip(t *testing.T) {
	for i, a := range goods() {
		b, e := attr.Encode(a)
		if e != api.OK {
			t.Error(i, e)
		}
		decodes(t, b, a)
	}
	for size := range 256 {
		a := api.Attrs{Has: pathed + comms, Path: long(7 * size), Comms: count(uint32(size), size)}
		b, e := attr.Encode(a)
		if e != api.OK {
			t.Error(size, e)
		}
		decodes(t, b, a)
	}
}

func FuzzDecode(f *testing.F) {
	for _, x := range items() {
		f.Add(x)
	}
	f.Add(plains(full()))
	f.Fuzz(func(t *testing.T, b []byte) {
		agrees(t, b)
		a, n := attr.Decode(b)
		if n.Code != 0 {
			return
		}
		// What was read is good, and what is written of it is read as the same.
		again, e := attr.Encode(a)
		if e != api.OK || !attr.Good(a) {
			t.Fatalf("% x: %s, %v", b, tell(a), e)
		}
		decodes(t, again, a)
	})
}
