package attr_test

import (
	"bytes"
	"math"
	"testing"

	"confluence/api"
	"confluence/attr"
)

// four is the bytes of numbers.
func four(l ...uint32) []byte {
	var b []byte
	for _, n := range l {
		b = append(b, byte(n>>24), byte(n>>16), byte(n>>8), byte(n))
	}
	return b
}

// plainPath is the value of an AS_PATH, whatever its segments are.
func plainPath(l ...api.Seg) []byte {
	var b []byte
	for _, s := range l {
		b = append(append(b, byte(s.Kind), byte(len(s.AS))), four(s.AS...)...)
	}
	return b
}

// short and lengthy are an attribute with a length in one byte and in two.
func short(flags, kind int, value ...byte) []byte {
	return append([]byte{byte(flags), byte(kind), byte(len(value))}, value...)
}
func lengthy(flags, kind int, value ...byte) []byte {
	return append([]byte{byte(flags | 16), byte(kind), byte(len(value) >> 8), byte(len(value))}, value...)
}

// plain is the bytes of an attribute, with a length in two bytes where one does not do.
func plain(flags, kind int, value ...byte) []byte {
	if len(value) > 255 {
		return lengthy(flags, kind, value...)
	}
	return short(flags, kind, value...)
}

// plains is the bytes of attributes, reckoned type by type.
func plains(a api.Attrs) []byte {
	var b []byte
	if a.Has&origin != 0 {
		b = append(b, plain(0x40, 1, byte(a.Origin))...)
	}
	if a.Has&pathed != 0 {
		b = append(b, plain(0x40, 2, plainPath(a.Path...)...)...)
	}
	if a.Has&hop != 0 {
		b = append(b, plain(0x40, 3, four(a.Hop)...)...)
	}
	if a.Has&med != 0 {
		b = append(b, plain(0x80, 4, four(a.Med)...)...)
	}
	if a.Has&pref != 0 {
		b = append(b, plain(0x40, 5, four(a.Pref)...)...)
	}
	if a.Has&atomic != 0 {
		b = append(b, plain(0x40, 6)...)
	}
	if a.Has&aggregator != 0 {
		b = append(b, plain(0xc0, 7, four(a.AggAS, a.AggID)...)...)
	}
	if a.Has&comms != 0 {
		b = append(b, plain(0xc0, 8, four(a.Comms...)...)...)
	}
	return b
}

// encodes reports attributes whose bytes are not those wanted, or have another size.
func encodes(t *testing.T, a api.Attrs, want ...byte) {
	t.Helper()
	if b, e := attr.Encode(a); e != api.OK || !bytes.Equal(b, want) {
		t.Errorf("%s: % x, %v, not % x", tell(a), b, e, want)
	}
	if n := attr.Size(a); n != len(want) {
		t.Errorf("%s: %d bytes, not %d", tell(a), n, len(want))
	}
}

// P8.2

func TestFlags(t *testing.T) {
	for kind, want := range map[int]int{
		math.MinInt: 0, -256: 0, -1: 0, 0: 0, 1: 64, 2: 64, 3: 64, 4: 128, 5: 64, 6: 64, 7: 192, 8: 192, 9: 0, 10: 0, 16: 0, 17: 0, 255: 0, 256: 0, 257: 0,
		1<<32 + 1: 0, 1<<62 + 8: 0, math.MaxInt: 0,
	} {
		if n := attr.Flags(kind); n != want {
			t.Errorf("%d: %d, not %d", kind, n, want)
		}
	}
}

// None at all, and each one alone: ORIGIN 0 is the chapter's example.
func TestEncodeOne(t *testing.T) {
	encodes(t, api.Attrs{})
	encodes(t, api.Attrs{Has: origin}, 0x40, 1, 1, 0)
	encodes(t, api.Attrs{Has: origin, Origin: 1}, 0x40, 1, 1, 1)
	encodes(t, api.Attrs{Has: origin, Origin: 2}, 0x40, 1, 1, 2)
	encodes(t, api.Attrs{Has: pathed}, 0x40, 2, 0)
	encodes(t, api.Attrs{Has: pathed, Path: way(seq(1, 0xfffefdfc), set(7))}, 0x40, 2, 16, 2, 2, 0, 0, 0, 1, 0xff, 0xfe, 0xfd, 0xfc, 1, 1, 0, 0, 0, 7)
	encodes(t, api.Attrs{Has: hop, Hop: 0x0a000102}, 0x40, 3, 4, 10, 0, 1, 2)
	encodes(t, api.Attrs{Has: med}, 0x80, 4, 4, 0, 0, 0, 0)
	encodes(t, api.Attrs{Has: med, Med: 0x01020304}, 0x80, 4, 4, 1, 2, 3, 4)
	encodes(t, api.Attrs{Has: pref, Pref: 0xf1f2f3f4}, 0x40, 5, 4, 0xf1, 0xf2, 0xf3, 0xf4)
	encodes(t, api.Attrs{Has: atomic}, 0x40, 6, 0)
	encodes(t, api.Attrs{Has: aggregator, AggAS: 0x01020304, AggID: 0x05060708}, 0xc0, 7, 8, 1, 2, 3, 4, 5, 6, 7, 8)
	encodes(t, api.Attrs{Has: comms}, 0xc0, 8, 0)
	encodes(t, api.Attrs{Has: comms, Comms: []uint32{1, 0xffffff01}}, 0xc0, 8, 8, 0, 0, 0, 1, 0xff, 0xff, 0xff, 1)
}

func TestEncode(t *testing.T) {
	for _, a := range goods() {
		encodes(t, a, plains(a)...)
	}
}

// Lengths about 255: a value of 255 bytes or fewer has its length in one byte, one of 256 in two.
func TestEncodeLengths(t *testing.T) {
	encodes(t, api.Attrs{Has: comms, Comms: count(1, 63)}, append([]byte{0xc0, 8, 252}, four(count(1, 63)...)...)...)
	encodes(t, api.Attrs{Has: comms, Comms: count(1, 64)}, append([]byte{0xd0, 8, 1, 0}, four(count(1, 64)...)...)...)
	encodes(t, api.Attrs{Has: comms, Comms: count(1, 255)}, append([]byte{0xd0, 8, 3, 252}, four(count(1, 255)...)...)...)
	encodes(t, api.Attrs{Has: pathed, Path: way(seq(count(1, 63)...))}, append([]byte{0x40, 2, 254, 2, 63}, four(count(1, 63)...)...)...)
	encodes(t, api.Attrs{Has: pathed, Path: way(seq(count(1, 64)...))}, append([]byte{0x50, 2, 1, 2, 2, 64}, four(count(1, 64)...)...)...)
	encodes(t, api.Attrs{Has: pathed, Path: way(set(0), seq(count(1, 62)...))}, append([]byte{0x50, 2, 1, 0, 1, 1, 0, 0, 0, 0, 2, 62}, four(count(1, 62)...)...)...)
	encodes(t, api.Attrs{Has: pathed, Path: long(2000)}, append([]byte{0x50, 2, 0x1f, 0x50}, plainPath(long(2000)...)...)...)
	for size := range 256 {
		a := api.Attrs{Has: comms + pathed, Path: long(size), Comms: count(9, size)}
		encodes(t, a, plains(a)...)
	}
}

func TestEncodeRefuses(t *testing.T) {
	for _, a := range bads() {
		if b, e := attr.Encode(a); b != nil || e != api.ErrArg {
			t.Errorf("%s: % x, %v", tell(a), b, e)
		}
		if n := attr.Size(a); n != 0 {
			t.Errorf("%s: %d bytes", tell(a), n)
		}
	}
}

// paths reports a value whose segments are not those wanted.
func paths(t *testing.T, b []byte, want ...api.Seg) {
	t.Helper()
	got, ok := attr.Path(b)
	if !ok || tell(api.Attrs{Path: got}) != tell(api.Attrs{Path: want}) {
		t.Errorf("% x: %v, %v, not %v", b, got, ok, want)
	}
}

// noPath reports a value that is read though it is none.
func noPath(t *testing.T, b ...byte) {
	t.Helper()
	if got, ok := attr.Path(b); ok || got != nil {
		t.Errorf("% x: %v, %v", b, got, ok)
	}
}

func TestPath(t *testing.T) {
	paths(t, nil)
	paths(t, []byte{})
	paths(t, []byte{2, 1, 1, 2, 3, 4}, seq(0x01020304))
	paths(t, []byte{1, 1, 0xff, 0xff, 0xff, 0xff}, set(math.MaxUint32))
	paths(t, []byte{2, 2, 0, 0, 0, 1, 0, 0, 0, 2, 1, 1, 0, 0, 0, 9}, seq(1, 2), set(9))
	// Segments are as they are, in whatever order, and as many as there are.
	for _, l := range [][]api.Seg{
		way(seq(1), seq(2)), way(set(2, 1, 2)), way(set(5, 4), set(5, 4), seq(1), seq(1)), long(2000), long(2001), long(9000),
		way(seq(count(1, 255)...), seq(1), set(count(9, 255)...)),
	} {
		paths(t, plainPath(l...), l...)
	}
	var many []api.Seg
	for i := range 300 {
		many = append(many, other(1+i%2, uint32(i)))
	}
	paths(t, plainPath(many...), many...)
}

func TestPathRefuses(t *testing.T) {
	head := plainPath(seq(1, 2), set(3))
	for _, ahead := range [][]byte{nil, head} {
		for kind := range 256 {
			b := append(bytes.Clone(ahead), byte(kind), 1, 0, 0, 0, 1)
			if kind == 1 || kind == 2 {
				paths(t, b, append(must(attr.Path(ahead)), other(kind, 1))...)
			} else {
				noPath(t, b...)
				noPath(t, append(b, head...)...)
				noPath(t, append(bytes.Clone(ahead), byte(kind))...)
				noPath(t, append(bytes.Clone(ahead), byte(kind), 0)...)
			}
		}
		for kind := byte(1); kind <= 2; kind++ {
			noPath(t, append(bytes.Clone(ahead), kind, 0)...)
			noPath(t, append(append(bytes.Clone(ahead), kind, 0), head...)...)
		}
	}
	// Missing bytes: a value may end where a segment ends, and nowhere else.
	for _, l := range [][]api.Seg{way(seq(1)), way(set(1, 2), seq(3)), way(seq(1), seq(2, 3, 4), set(5))} {
		ends := map[int]int{0: 0}
		for i := range l {
			ends[len(plainPath(l[:i+1]...))] = i + 1
		}
		b := plainPath(l...)
		for size := range len(b) + 1 {
			if n, ok := ends[size]; ok {
				paths(t, b[:size], l[:n]...)
			} else {
				noPath(t, b[:size]...)
			}
		}
		noPath(t, append(b, 0)...)
		noPath(t, append(b, 2)...)
	}
	for n := 1; n < 256; n++ {
		noPath(t, append([]byte{2, byte(n)}, four(count(1, n)...)[1:]...)...)
		noPath(t, append([]byte{1, byte(n)}, four(count(1, n-1)...)...)...)
	}
}

// must is a path that was answered, whose truth is asked for elsewhere.
func must(l []api.Seg, _ bool) []api.Seg {
	return l
}
