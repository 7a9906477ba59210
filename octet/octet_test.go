package octet_test

import (
	"bytes"
	"math"
	"testing"

	"confluence/octet"
)

// nine are the bytes 1 to 9.
func nine() []byte {
	return []byte{1, 2, 3, 4, 5, 6, 7, 8, 9}
}

// good reports a reader that is bad, or has not as many bytes left as is said.
func good(t *testing.T, name string, r *octet.Reader, left int) {
	t.Helper()
	if r.Bad() || r.Left() != left {
		t.Errorf("%s: bad %v, left %d, not %d", name, r.Bad(), r.Left(), left)
	}
}

// calls are all the calls; none tells whether the answer is that of a bad reader.
var calls = []struct {
	name string
	none func(r *octet.Reader) bool
}{
	{"U8", func(r *octet.Reader) bool { return r.U8() == 0 }},
	{"U16", func(r *octet.Reader) bool { return r.U16() == 0 }},
	{"U32", func(r *octet.Reader) bool { return r.U32() == 0 }},
	{"Take(0)", func(r *octet.Reader) bool { return r.Take(0) == nil }},
	{"Take(1)", func(r *octet.Reader) bool { return r.Take(1) == nil }},
	{"Take(-1)", func(r *octet.Reader) bool { return r.Take(-1) == nil }},
	{"Take of much", func(r *octet.Reader) bool { return r.Take(math.MaxInt) == nil }},
	{"Part(0)", func(r *octet.Reader) bool { return spent(r.Part(0)) }},
	{"Part(1)", func(r *octet.Reader) bool { return spent(r.Part(1)) }},
	{"Part(-1)", func(r *octet.Reader) bool { return spent(r.Part(-1)) }},
	{"Part of much", func(r *octet.Reader) bool { return spent(r.Part(math.MaxInt)) }},
	{"Rest", func(r *octet.Reader) bool { return r.Rest() == nil }},
	{"Left", func(r *octet.Reader) bool { return r.Left() == 0 }},
	{"Bad", func(r *octet.Reader) bool { return r.Bad() }},
}

// spent tells whether a reader is bad and has nothing left.
func spent(r *octet.Reader) bool {
	return r.Bad() && r.Left() == 0
}

// bad reports a reader that is not bad, or does not answer so in every call, however often it is asked.
func bad(t *testing.T, name string, r *octet.Reader) {
	t.Helper()
	if !spent(r) {
		t.Errorf("%s: bad %v, left %d", name, r.Bad(), r.Left())
	}
	for range 2 {
		for _, x := range calls {
			if !x.none(r) || !spent(r) {
				t.Errorf("%s: %s of a bad reader", name, x.name)
			}
		}
	}
}

// P6.1: the chapter's example.
func TestNumbers(t *testing.T) {
	r := octet.New(nine())
	good(t, "new", r, 9)
	if n := r.U8(); n != 1 {
		t.Errorf("U8: %x", n)
	}
	good(t, "U8", r, 8)
	if n := r.U16(); n != 0x0203 {
		t.Errorf("U16: %x", n)
	}
	good(t, "U16", r, 6)
	if n := r.U32(); n != 0x04050607 {
		t.Errorf("U32: %x", n)
	}
	good(t, "U32", r, 2)
	if n := r.U32(); n != 0 {
		t.Errorf("U32 of two bytes: %x", n)
	}
	bad(t, "U32 of two bytes", r)
}

// P6.1: no number is below 0, each byte has its place, and a number that is 0 is no error.
func TestNumbersGreat(t *testing.T) {
	for _, b := range []byte{0, 1, 0x7f, 0x80, 0xfe, 0xff} {
		l := bytes.Repeat([]byte{b}, 7)
		r := octet.New(l)
		one, two, four := r.U8(), r.U16(), r.U32()
		if one != int(b) || two != int(b)*0x101 || four != uint32(b)*0x1010101 {
			t.Errorf("%02x: %x %x %x", b, one, two, four)
		}
		good(t, "great", r, 0)
	}
	for i := range 4 {
		l := make([]byte, 4)
		l[i] = 0x81
		if n := octet.New(l).U32(); n != 0x81<<(24-8*i) {
			t.Errorf("U32 of % x: %x", l, n)
		}
	}
	for i := range 2 {
		l := make([]byte, 2)
		l[i] = 0x81
		if n := octet.New(l).U16(); n != 0x81<<(8-8*i) {
			t.Errorf("U16 of % x: %x", l, n)
		}
	}
	for i := range 256 {
		if n := octet.New([]byte{byte(i), 7}).U8(); n != i {
			t.Errorf("U8 of %02x: %x", i, n)
		}
	}
	for i := range 65536 {
		if n := octet.New([]byte{byte(i / 256), byte(i % 256), 7}).U16(); n != i {
			t.Errorf("U16 of %04x: %x", i, n)
		}
	}
}

// P6.1: just as many bytes as are read, one more, and one fewer.
func TestNumbersEnds(t *testing.T) {
	for _, x := range []struct {
		name string
		size int
		want uint32
		f    func(r *octet.Reader) uint32
	}{
		{"U8", 1, 0x01, func(r *octet.Reader) uint32 { return uint32(r.U8()) }},
		{"U16", 2, 0x0102, func(r *octet.Reader) uint32 { return uint32(r.U16()) }},
		{"U32", 4, 0x01020304, func(r *octet.Reader) uint32 { return r.U32() }},
	} {
		for have := range 10 {
			r := octet.New(nine()[:have])
			n := x.f(r)
			if have < x.size {
				if n != 0 {
					t.Errorf("%s of %d bytes: %x", x.name, have, n)
				}
				bad(t, x.name, r)
				continue
			}
			if n != x.want {
				t.Errorf("%s of %d bytes: %x", x.name, have, n)
			}
			good(t, x.name, r, have-x.size)
		}
	}
}

// P6.1
func TestTake(t *testing.T) {
	for have := range 10 {
		for _, n := range []int{math.MinInt, math.MinInt32, -1 << 16, -256, -9, -2, -1, 0, 1, 2, 3, 4, 5, 6, 7, 8, 9, 10, 255, 256, 4096, 1 << 16, math.MaxInt32, math.MaxInt - 1, math.MaxInt} {
			r := octet.New(nine()[:have])
			b := r.Take(n)
			if n < 0 || n > have {
				if b != nil {
					t.Errorf("Take(%d) of %d bytes: % x", n, have, b)
				}
				bad(t, "Take", r)
				continue
			}
			if !bytes.Equal(b, nine()[:n]) {
				t.Errorf("Take(%d) of %d bytes: % x", n, have, b)
			}
			good(t, "Take", r, have-n)
			if b := r.Rest(); !bytes.Equal(b, nine()[n:have]) {
				t.Errorf("behind Take(%d) of %d bytes: % x", n, have, b)
			}
		}
	}
}

// P6.1: a second piece begins where the first one ended; a piece that is too long by one takes nothing, and all that was left is gone.
func TestTakeOn(t *testing.T) {
	r := octet.New(nine())
	for _, x := range [][]byte{{1, 2}, {}, {3}, {4, 5, 6}, {}} {
		if b := r.Take(len(x)); !bytes.Equal(b, x) {
			t.Errorf("Take(%d): % x", len(x), b)
		}
	}
	good(t, "Take", r, 3)
	if b := r.Take(4); b != nil {
		t.Errorf("Take(4): % x", b)
	}
	bad(t, "Take(4)", r)
}

// P6.1
func TestPart(t *testing.T) {
	for have := range 10 {
		for _, n := range []int{math.MinInt, math.MinInt32, -256, -9, -1, 0, 1, 2, 3, 4, 5, 6, 7, 8, 9, 10, 256, 1 << 16, math.MaxInt32, math.MaxInt} {
			r := octet.New(nine()[:have])
			p := r.Part(n)
			if n < 0 || n > have {
				bad(t, "Part, the part", p)
				bad(t, "Part, the reader", r)
				continue
			}
			good(t, "the part", p, n)
			good(t, "the reader", r, have-n)
			if b := r.Rest(); !bytes.Equal(b, nine()[n:have]) {
				t.Errorf("behind Part(%d) of %d bytes: % x", n, have, b)
			}
			good(t, "the part, when the reader is read", p, n)
			if b := p.Rest(); !bytes.Equal(b, nine()[:n]) {
				t.Errorf("Part(%d) of %d bytes: % x", n, have, b)
			}
			good(t, "the part, read", p, 0)
			if p.U8() != 0 {
				t.Errorf("Part(%d) of %d bytes goes on", n, have)
			}
			bad(t, "the part, read on", p)
			good(t, "the reader, when the part is bad", r, 0)
		}
	}
}

// P6.1: errors of a part do not affect the reader, and the other way round.
func TestPartErrors(t *testing.T) {
	r := octet.New([]byte{7, 8, 9})
	p := r.Part(2)
	if n := p.U16(); n != 0x0708 {
		t.Errorf("U16: %x", n)
	}
	p.U8()
	bad(t, "the part", p)
	good(t, "the reader", r, 1)
	if n := r.U8(); n != 9 {
		t.Errorf("behind the part: %x", n)
	}
	for _, x := range failing {
		r := octet.New(append(nine()[:x.have], 7, 8))
		p := r.Part(x.have)
		x.f(p)
		bad(t, "the part: "+x.name, p)
		good(t, "the reader: "+x.name, r, 2)
		if n := r.U16(); n != 0x0708 {
			t.Errorf("behind the part: %s: %x", x.name, n)
		}
		good(t, "the reader, read: "+x.name, r, 0)
	}
	r = octet.New(nine())
	p = r.Part(4)
	r.Take(6)
	bad(t, "the reader", r)
	good(t, "the part", p, 4)
	if n := p.U32(); n != 0x01020304 {
		t.Errorf("the part: %x", n)
	}
}

// P6.1: parts of parts, and parts side by side.
func TestPartNested(t *testing.T) {
	r := octet.New(nine())
	outer := r.Part(6)
	first, second := outer.Part(2), outer.Part(3)
	good(t, "the reader", r, 3)
	good(t, "the outer part", outer, 1)
	if n := second.U16(); n != 0x0304 {
		t.Errorf("the second part: %x", n)
	}
	second.U16()
	bad(t, "the second part", second)
	bad(t, "a part of a bad part", second.Part(0))
	if n := first.U16(); n != 0x0102 {
		t.Errorf("the first part: %x", n)
	}
	good(t, "the first part", first, 0)
	bad(t, "a part beyond the outer one, though the reader has more", outer.Part(2))
	bad(t, "the outer part", outer)
	if b := r.Rest(); !bytes.Equal(b, []byte{7, 8, 9}) {
		t.Errorf("the reader: % x", b)
	}
}

// P6.1
func TestRest(t *testing.T) {
	for have := range 10 {
		for read := range have + 1 {
			r := octet.New(nine()[:have])
			r.Take(read)
			if b := r.Rest(); !bytes.Equal(b, nine()[read:have]) {
				t.Errorf("Rest behind %d of %d bytes: % x", read, have, b)
			}
			good(t, "Rest", r, 0)
			if b := r.Rest(); len(b) != 0 {
				t.Errorf("Rest again: % x", b)
			}
			if b := r.Take(0); len(b) != 0 {
				t.Errorf("Take(0) of nothing: % x", b)
			}
			good(t, "a part of nothing", r.Part(0), 0)
			good(t, "Rest again", r, 0)
		}
	}
}

// failing are calls that find too little in have bytes, or ask for less than nothing.
var failing = []struct {
	name string
	have int
	f    func(r *octet.Reader)
}{
	{"U8 of none", 0, func(r *octet.Reader) { r.U8() }},
	{"U16 of none", 0, func(r *octet.Reader) { r.U16() }},
	{"U16 of one", 1, func(r *octet.Reader) { r.U16() }},
	{"U32 of none", 0, func(r *octet.Reader) { r.U32() }},
	{"U32 of three", 3, func(r *octet.Reader) { r.U32() }},
	{"Take(1) of none", 0, func(r *octet.Reader) { r.Take(1) }},
	{"Take(5) of four", 4, func(r *octet.Reader) { r.Take(5) }},
	{"Take(-1) of nine", 9, func(r *octet.Reader) { r.Take(-1) }},
	{"Take(-1) of none", 0, func(r *octet.Reader) { r.Take(-1) }},
	{"Part(1) of none", 0, func(r *octet.Reader) { r.Part(1) }},
	{"Part(5) of four", 4, func(r *octet.Reader) { r.Part(5) }},
	{"Part(-1) of nine", 9, func(r *octet.Reader) { r.Part(-1) }},
	{"Part(-1) of none", 0, func(r *octet.Reader) { r.Part(-1) }},
}

// P6.1: such a call makes a reader bad at once and for good.
func TestBad(t *testing.T) {
	for _, x := range failing {
		r := octet.New(nine()[:x.have])
		good(t, x.name, r, x.have)
		x.f(r)
		bad(t, x.name, r)
	}
}

// P6.1: a nil reader answers as a bad one does.
func TestNilReader(t *testing.T) {
	var r *octet.Reader
	bad(t, "nil", r)
	for _, n := range []int{-1, 0, 1} {
		bad(t, "a part of nil", r.Part(n))
	}
	if r != nil {
		t.Error("no more nil")
	}
}

// P6.1: no bytes are no error till some are asked for.
func TestEmpty(t *testing.T) {
	for _, b := range [][]byte{nil, {}} {
		r := octet.New(b)
		good(t, "of nothing", r, 0)
		if b := r.Rest(); len(b) != 0 {
			t.Errorf("Rest: % x", b)
		}
		if b := r.Take(0); len(b) != 0 {
			t.Errorf("Take(0): % x", b)
		}
		good(t, "a part of nothing", r.Part(0), 0)
		good(t, "of nothing, read", r, 0)
		r.U8()
		bad(t, "of nothing, read on", r)
	}
}

// P6.1: more bytes than a message has.
func TestMany(t *testing.T) {
	b := make([]byte, 1<<20)
	for i := range b {
		b[i] = byte(i * 7 >> 3)
	}
	r := octet.New(b)
	for i := 0; i < 1<<19; i += 2 {
		if n := r.U16(); n != int(b[i])<<8|int(b[i+1]) {
			t.Fatalf("%d: %x", i, n)
		}
	}
	good(t, "many", r, 1<<19)
	p := r.Part(1<<19 - 1)
	if n := r.U8(); n != int(b[1<<20-1]) {
		t.Errorf("the last one: %x", n)
	}
	if !bytes.Equal(p.Rest(), b[1<<19:1<<20-1]) {
		t.Error("the part")
	}
	good(t, "many, read", r, 0)
}
