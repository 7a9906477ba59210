package octet_test

import (
	"bytes"
	"testing"

	"confluence/octet"
)

// mark fills the memory behind a list, where nothing may be written either.
const mark = 0xee

// roomy is a copy of b with room behind it, and the whole of its memory.
func roomy(b []byte) (list, whole []byte) {
	whole = append(bytes.Clone(b), mark, mark, mark, mark, mark, mark, mark, mark)
	return whole[:len(b)], whole
}

// scribble writes over all the memory that a list reaches.
func scribble(b []byte) {
	b = b[:cap(b)]
	for i := range b {
		b[i] = 0xbb
	}
}

// The bytes that a reader is made of are not kept: what becomes of them later is not read.
func TestMemoryNew(t *testing.T) {
	b, whole := roomy(nine())
	r := octet.New(b)
	p := r.Part(3)
	scribble(whole)
	if n := p.U16(); n != 0x0102 {
		t.Errorf("the part: %x", n)
	}
	if n := r.U32(); n != 0x04050607 {
		t.Errorf("the reader: %x", n)
	}
	if b := r.Take(1); !bytes.Equal(b, []byte{8}) {
		t.Errorf("Take: % x", b)
	}
	if b := r.Rest(); !bytes.Equal(b, []byte{9}) {
		t.Errorf("Rest: % x", b)
	}
}

// The bytes that a reader is made of are not changed, neither by reading nor by what is done with what was read, nor the memory behind them; and nothing behind them is read.
func TestMemoryRead(t *testing.T) {
	b, whole := roomy(nine())
	keep := bytes.Clone(whole)
	r := octet.New(b)
	r.U8()
	r.U16()
	scribble(r.Take(2))
	p := r.Part(2)
	scribble(p.Take(1))
	scribble(p.Rest())
	scribble(r.Rest())
	if !bytes.Equal(whole, keep) {
		t.Errorf("% x", whole)
	}
	r.U8()
	bad(t, "beyond the list", r)
	scribble(octet.New(b).Rest())
	if !bytes.Equal(whole, keep) {
		t.Errorf("% x", whole)
	}
}

// What is read is the caller's: writing over it, and over the room behind it, changes neither what is left nor a part nor what was read ahead of it.
func TestMemoryTake(t *testing.T) {
	for n := range 10 {
		r := octet.New(nine())
		first := r.Take(n / 2)
		p := r.Part((n + 1) / 2)
		second := p.Take((n + 1) / 4)
		scribble(second)
		if !bytes.Equal(first, nine()[:n/2]) {
			t.Errorf("%d: the first list: % x", n, first)
		}
		scribble(first)
		scribble(append(first, 0xbb, 0xbb, 0xbb))
		if b := p.Rest(); !bytes.Equal(b, nine()[n/2+(n+1)/4:n]) {
			t.Errorf("%d: the part: % x", n, b)
		} else {
			scribble(append(b, 0xbb, 0xbb, 0xbb))
		}
		if b := r.Rest(); !bytes.Equal(b, nine()[n:]) {
			t.Errorf("%d: the reader: % x", n, b)
		}
	}
}

// Two readers of the same bytes know nothing of each other.
func TestMemoryReaders(t *testing.T) {
	b := nine()
	r, o := octet.New(b), octet.New(b)
	r.U32()
	scribble(r.Take(5))
	r.U8()
	bad(t, "the one", r)
	good(t, "the other", o, 9)
	if b := o.Rest(); !bytes.Equal(b, nine()) {
		t.Errorf("the other: % x", b)
	}
}

// puts are the calls that write a list.
var puts = []struct {
	name string
	head []byte // head is what stands ahead of a list of three bytes.
	f    func(w *octet.Writer, b []byte)
}{
	{"Put", nil, func(w *octet.Writer, b []byte) { w.Put(b) }},
	{"Sized", []byte{3}, func(w *octet.Writer, b []byte) { w.Sized(b) }},
	{"Long", []byte{0, 3}, func(w *octet.Writer, b []byte) { w.Long(b) }},
}

// A list that is written is neither kept nor changed, nor the memory behind it, be it the first one or not.
func TestMemoryPut(t *testing.T) {
	for _, x := range puts {
		for ahead := range 3 {
			var w octet.Writer
			w.Put(nine()[:ahead])
			b, whole := roomy([]byte{1, 2, 3})
			keep := bytes.Clone(whole)
			x.f(&w, b)
			w.U8(4).U16(5).U32(6).Put([]byte{7})
			scribble(w.Bytes())
			if !bytes.Equal(whole, keep) {
				t.Errorf("%s: the list changed: % x", x.name, whole)
			}
			scribble(whole)
			want := append(append(nine()[:ahead], x.head...), 1, 2, 3, 4, 0, 5, 0, 0, 0, 6, 7)
			wrote(t, x.name, &w, want...)
		}
	}
}

// What a writer tells is the caller's: writing over it changes neither the writer nor what it tells again, and writing on does not change it.
func TestMemoryBytes(t *testing.T) {
	for size := range 40 {
		w := new(octet.Writer).Put(long(size))
		first, second := w.Bytes(), w.Bytes()
		scribble(second)
		if !bytes.Equal(first, long(size)) {
			t.Errorf("two answers share memory: % x", first)
		}
		// Where the writer's own memory had room, a caller who adds to an answer would write into it.
		other := append(w.Bytes(), 0xbb, 0xbb)
		w.U8(7)
		wrote(t, "written on", w, append(long(size), 7)...)
		if !bytes.Equal(other, append(long(size), 0xbb, 0xbb)) || !bytes.Equal(first, long(size)) {
			t.Errorf("an answer changed: % x, % x", first, other)
		}
		scribble(first)
		scribble(other)
		wrote(t, "written over", w, append(long(size), 7)...)
	}
}

// Two writers know nothing of each other, nor does a writer change by writing what it told.
func TestMemoryWriters(t *testing.T) {
	var a, b octet.Writer
	l := nine()
	a.Put(l[:3])
	b.Put(l[:3])
	a.U8(7)
	b.U8(8)
	wrote(t, "the one", &a, 1, 2, 3, 7)
	wrote(t, "the other", &b, 1, 2, 3, 8)
	a.Put(a.Bytes()).Put(b.Bytes())
	wrote(t, "the one, doubled", &a, 1, 2, 3, 7, 1, 2, 3, 7, 1, 2, 3, 8)
	wrote(t, "the other", &b, 1, 2, 3, 8)
	if !bytes.Equal(l, nine()) {
		t.Errorf("% x", l)
	}
}
