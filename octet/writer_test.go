package octet_test

import (
	"bytes"
	"math"
	"testing"

	"confluence/octet"
)

// wrote reports a writer that has not just these bytes.
func wrote(t *testing.T, name string, w *octet.Writer, want ...byte) {
	t.Helper()
	if b := w.Bytes(); !bytes.Equal(b, want) {
		t.Errorf("%s: % x, not % x", name, b, want)
	}
}

// P6.2
func TestWriter(t *testing.T) {
	var w octet.Writer
	wrote(t, "the zero writer", &w)
	w.U8(257)
	wrote(t, "U8", &w, 1)
	w.U16(258)
	wrote(t, "U16", &w, 1, 1, 2)
	w.U32(0x03040506)
	wrote(t, "U32", &w, 1, 1, 2, 3, 4, 5, 6)
	w.Put([]byte("ab"))
	wrote(t, "Put", &w, 1, 1, 2, 3, 4, 5, 6, 'a', 'b')
	if !w.Sized([]byte("cd")) {
		t.Error("Sized")
	}
	wrote(t, "Sized", &w, 1, 1, 2, 3, 4, 5, 6, 'a', 'b', 2, 'c', 'd')
	if !w.Long([]byte("e")) {
		t.Error("Long")
	}
	wrote(t, "Long", &w, 1, 1, 2, 3, 4, 5, 6, 'a', 'b', 2, 'c', 'd', 0, 1, 'e')
	wrote(t, "Bytes takes nothing", &w, 1, 1, 2, 3, 4, 5, 6, 'a', 'b', 2, 'c', 'd', 0, 1, 'e')
}

// P6.2: a writer answers itself.
func TestWriterChain(t *testing.T) {
	w := new(octet.Writer)
	for name, x := range map[string]*octet.Writer{"U8": w.U8(1), "U16": w.U16(2), "U32": w.U32(3), "Put": w.Put([]byte{4}), "Put none": w.Put(nil)} {
		if x != w {
			t.Error(name)
		}
	}
	wrote(t, "a row of calls", new(octet.Writer).U8(1).U16(2).U32(3).Put([]byte{4}).Put(nil).U8(5), 1, 0, 2, 0, 0, 0, 3, 4, 5)
}

// P6.2: of a number that is too great, or below 0, only the lowest bytes count.
func TestWriterNumbers(t *testing.T) {
	for _, x := range []struct {
		n    int
		want [3]byte // want is the byte of U8, and the two of U16.
	}{
		{0, [3]byte{}}, {1, [3]byte{1, 0, 1}}, {0x7f, [3]byte{0x7f, 0, 0x7f}}, {0x80, [3]byte{0x80, 0, 0x80}}, {255, [3]byte{255, 0, 255}}, {256, [3]byte{0, 1, 0}}, {257, [3]byte{1, 1, 1}}, {258, [3]byte{2, 1, 2}},
		{0x1234, [3]byte{0x34, 0x12, 0x34}}, {0x7fff, [3]byte{0xff, 0x7f, 0xff}}, {0x8000, [3]byte{0, 0x80, 0}}, {65535, [3]byte{255, 255, 255}}, {65536, [3]byte{}}, {65537, [3]byte{1, 0, 1}}, {0x12345678, [3]byte{0x78, 0x56, 0x78}},
		{math.MaxInt32, [3]byte{255, 255, 255}}, {math.MinInt32, [3]byte{}}, {math.MaxInt, [3]byte{255, 255, 255}}, {math.MinInt, [3]byte{}},
		{-1, [3]byte{255, 255, 255}}, {-2, [3]byte{254, 255, 254}}, {-256, [3]byte{0, 255, 0}}, {-257, [3]byte{255, 254, 255}}, {-65536, [3]byte{}}, {-65537, [3]byte{255, 255, 255}},
	} {
		wrote(t, "U8", new(octet.Writer).U8(x.n), x.want[0])
		wrote(t, "U16", new(octet.Writer).U16(x.n), x.want[1:]...)
	}
	for n, want := range map[uint32][]byte{
		0: {0, 0, 0, 0}, 1: {0, 0, 0, 1}, 255: {0, 0, 0, 255}, 256: {0, 0, 1, 0}, 65535: {0, 0, 255, 255}, 65536: {0, 1, 0, 0}, 1 << 24: {1, 0, 0, 0}, 1 << 31: {128, 0, 0, 0},
		0x01020304: {1, 2, 3, 4}, 0x80818283: {0x80, 0x81, 0x82, 0x83}, math.MaxUint32: {255, 255, 255, 255},
	} {
		wrote(t, "U32", new(octet.Writer).U32(n), want...)
	}
}

// long is a list of size bytes that are not all alike.
func long(size int) []byte {
	l := make([]byte, size)
	for i := range l {
		l[i] = byte(i*5 + 1)
	}
	return l
}

// P6.2: lengths up to the greatest one that the bytes ahead hold; beyond it nothing is written.
func TestSizedLong(t *testing.T) {
	for _, size := range []int{0, 1, 2, 127, 128, 254, 255, 256, 257, 511, 512, 513, 4096, 65279, 65280, 65534, 65535, 65536, 65537, 65792, 131072, 1<<16 + 255, 1<<24 + 1} {
		b := long(size)
		w := new(octet.Writer).U8(9)
		ok := w.Sized(b)
		if size > 255 {
			wrote(t, "Sized, too long", w, 9)
		} else {
			wrote(t, "Sized", w, append([]byte{9, byte(size)}, b...)...)
		}
		if ok != (size <= 255) {
			t.Errorf("Sized of %d bytes: %v", size, ok)
		}
		w = new(octet.Writer).U8(9)
		ok = w.Long(b)
		if size > 65535 {
			wrote(t, "Long, too long", w, 9)
		} else {
			wrote(t, "Long", w, append([]byte{9, byte(size / 256), byte(size % 256)}, b...)...)
		}
		if ok != (size <= 65535) {
			t.Errorf("Long of %d bytes: %v", size, ok)
		}
	}
}

// P6.2: no bytes have a length too; and what was refused does not keep a writer from going on.
func TestSizedLongOn(t *testing.T) {
	w := new(octet.Writer)
	if w.Sized(long(256)) || w.Long(long(65536)) {
		t.Error("too long")
	}
	wrote(t, "nothing", w)
	if !w.Sized(nil) || !w.Long(nil) || !w.Sized([]byte{}) || !w.Long([]byte{}) || !w.Sized([]byte("ab")) {
		t.Error("short")
	}
	wrote(t, "short", w, 0, 0, 0, 0, 0, 0, 2, 'a', 'b')
}

// P6.2: for a nil writer the results are nil, false and empty.
func TestNilWriter(t *testing.T) {
	var w *octet.Writer
	for name, x := range map[string]*octet.Writer{"U8": w.U8(1), "U16": w.U16(2), "U32": w.U32(3), "Put": w.Put([]byte{4}), "Put none": w.Put(nil), "a row": w.U8(1).U16(2).U32(3).Put([]byte{4})} {
		if x != nil {
			t.Error(name)
		}
	}
	for _, b := range [][]byte{nil, {}, {1}, long(255), long(256), long(65535), long(65536)} {
		if w.Sized(b) || w.Long(b) {
			t.Error(len(b))
		}
	}
	if b := w.Bytes(); len(b) != 0 {
		t.Errorf("% x", b)
	}
}

// P6.2: more bytes than a message has.
func TestWriterMany(t *testing.T) {
	var w octet.Writer
	b := long(1 << 18)
	for i := 0; i < len(b); i += 8 {
		w.U8(int(b[i])).U16(int(b[i+1])<<8 | int(b[i+2])).U32(uint32(b[i+3])<<24 | uint32(b[i+4])<<16 | uint32(b[i+5])<<8 | uint32(b[i+6])).Put(b[i+7 : i+8])
	}
	w.Put(b)
	wrote(t, "many", &w, append(b, b...)...)
}

// writing is a call of a writer, and the call of a reader that reads it again.
type writing struct {
	write func(w *octet.Writer)
	read  func(r *octet.Reader) bool
}

// writings are calls of each kind.
func writings() []writing {
	var l []writing
	for _, n := range []int{0, 1, 0x80, 255} {
		l = append(l, writing{func(w *octet.Writer) { w.U8(n) }, func(r *octet.Reader) bool { return r.U8() == n }})
	}
	for _, n := range []int{0, 1, 0x1234, 0x8001, 65535} {
		l = append(l, writing{func(w *octet.Writer) { w.U16(n) }, func(r *octet.Reader) bool { return r.U16() == n }})
	}
	for _, n := range []uint32{0, 1, 0x12345678, 0x80000001, math.MaxUint32} {
		l = append(l, writing{func(w *octet.Writer) { w.U32(n) }, func(r *octet.Reader) bool { return r.U32() == n }})
	}
	for _, size := range []int{0, 1, 5, 255} {
		b := long(size)
		l = append(l, writing{func(w *octet.Writer) { w.Put(b) }, func(r *octet.Reader) bool { return bytes.Equal(r.Take(size), b) }})
		l = append(l, writing{func(w *octet.Writer) { w.Sized(b) }, func(r *octet.Reader) bool { return bytes.Equal(r.Take(r.U8()), b) }})
		l = append(l, writing{func(w *octet.Writer) { w.Long(b) }, func(r *octet.Reader) bool { return bytes.Equal(r.Part(r.U16()).Rest(), b) }})
	}
	return l
}

// P6.3: every row of three calls is read again, and nothing is left behind it.
func TestRound(t *testing.T) {
	l := writings()
	for i, x := range l {
		for j, y := range l {
			for k, z := range l {
				var w octet.Writer
				x.write(&w)
				y.write(&w)
				z.write(&w)
				r := octet.New(w.Bytes())
				if !x.read(r) || !y.read(r) || !z.read(r) || r.Bad() || r.Left() != 0 {
					t.Fatal(i, j, k)
				}
			}
		}
	}
}

// P6.3: all bytes of what was written, read as one list.
func TestRoundRest(t *testing.T) {
	var w octet.Writer
	for _, x := range writings() {
		x.write(&w)
	}
	all := w.Bytes()
	r := octet.New(all)
	for i, x := range writings() {
		if !x.read(r) {
			t.Fatal(i)
		}
	}
	good(t, "all", r, 0)
	if b := octet.New(all).Rest(); !bytes.Equal(b, all) {
		t.Errorf("% x", b)
	}
	wrote(t, "all, put", new(octet.Writer).Put(octet.New(all).Rest()), all...)
}
