package attr_test

import (
	"bytes"
	"slices"
	"testing"

	"confluence/api"
	"confluence/attr"
)

// mark fills the memory behind a list, where nothing may be written either.
const mark = 0xee

// roomy is a copy of a list with room behind it.
func roomy[T any](l []T, x T) []T {
	return append(slices.Clone(l), x, x, x, x, x)[:len(l)]
}

// roomyAttrs is a copy of attributes with room behind all lists.
func roomyAttrs(a api.Attrs) api.Attrs {
	a.Comms = roomy(a.Comms, mark)
	a.Path = roomy(a.Path, other(mark, mark))
	for i := range a.Path {
		a.Path[i].AS = roomy(a.Path[i].AS, mark)
	}
	return a
}

// reach is all the memory that attributes reach, the room behind their lists too, as a text.
func reach(a api.Attrs) string {
	a.Comms = a.Comms[:cap(a.Comms)]
	a.Path = slices.Clone(a.Path[:cap(a.Path)])
	for i, s := range a.Path {
		a.Path[i].AS = s.AS[:cap(s.AS)]
	}
	return tell(a)
}

// scribble writes over all the memory that a list reaches.
func scribble[T any](l []T, x T) {
	l = l[:cap(l)]
	for i := range l {
		l[i] = x
	}
}

// blot writes over all the memory that attributes reach.
func blot(a api.Attrs) {
	scribble(a.Comms, 0xbad)
	for _, s := range a.Path[:cap(a.Path)] {
		scribble(s.AS, 0xbad)
	}
	scribble(a.Path, other(0xbad))
}

// mixed is attributes that are good, and others.
func mixed() []api.Attrs {
	return append(append(goods(), bads()...), changed(func(a *api.Attrs) {
		a.Path = way(seq(1), seq(), seq(2), other(9, 9), set(4, 3, 4), set(5))
		a.Comms = []uint32{3, 1, 3, 2}
	}))
}

// No call changes attributes that are handed in, nor the memory behind their lists; nor does anything that is done with what it answers.
func TestMemoryAttrs(t *testing.T) {
	for name, call := range map[string]func(a api.Attrs){
		"Good":   func(a api.Attrs) { attr.Good(a) },
		"Norm":   func(a api.Attrs) { blot(attr.Norm(a)) },
		"Same":   func(a api.Attrs) { attr.Same(a, a); attr.Same(a, full()); attr.Same(full(), a) },
		"Encode": func(a api.Attrs) { b, _ := attr.Encode(a); scribble(b, 0xbb) },
		"Size":   func(a api.Attrs) { attr.Size(a) },
		"Well":   func(a api.Attrs) { scribble(attr.Well(a).Data, 0xbb) },
	} {
		for _, x := range mixed() {
			a := roomyAttrs(x)
			keep := reach(a)
			call(a)
			if reach(a) != keep {
				t.Errorf("%s of %s", name, tell(x))
			}
		}
	}
}

// What is answered does not change with the attributes that were handed in, nor with the next answer.
func TestMemoryAnswers(t *testing.T) {
	for _, x := range mixed() {
		a := roomyAttrs(x)
		b, _ := attr.Encode(a)
		norm, well := attr.Norm(a), attr.Well(a)
		wantB, wantNorm, wantWell := bytes.Clone(b), tell(norm), bytes.Clone(well.Data)
		next, _ := attr.Encode(a)
		scribble(next, 0xbb)
		blot(attr.Norm(a))
		scribble(attr.Well(a).Data, 0xbb)
		blot(a)
		if !bytes.Equal(b, wantB) || tell(norm) != wantNorm || !bytes.Equal(well.Data, wantWell) {
			t.Error(tell(x))
		}
	}
}

// pieces are bytes of every sort, each with room behind it.
func pieces() [][]byte {
	all := [][]byte{nil, {}, plains(full()), plainPath(full().Path...), plainPath(seq(1), seq(2), seq(3))}
	for _, a := range goods() {
		all = append(all, plains(a))
	}
	for _, x := range items() {
		all = append(all, x, join(x, x))
	}
	return all
}

// Bytes that are handed in are not changed, nor is what stands behind them read or changed; and what is answered is neither they nor the next answer.
func TestMemoryBytes(t *testing.T) {
	for _, x := range pieces() {
		b := roomy(x, mark)
		keep := bytes.Clone(b[:cap(b)])
		a, n := attr.Decode(b)
		l, ok := attr.Path(b)
		wantA, wantN := plainDecode(x)
		if tell(a) != tell(wantA) || n.Sub != wantN.Sub || !bytes.Equal(n.Data, wantN.Data) {
			t.Errorf("% x: %s, %v", x, tell(a), n)
		}
		wantL := tell(api.Attrs{Path: l})
		again, m := attr.Decode(b)
		blot(again)
		scribble(m.Data, 0xbb)
		blot(api.Attrs{Path: must(attr.Path(b))})
		if !bytes.Equal(b[:cap(b)], keep) {
			t.Errorf("% x: % x", x, b[:cap(b)])
		}
		scribble(b, 0xbb)
		if tell(a) != tell(wantA) || !bytes.Equal(n.Data, wantN.Data) || tell(api.Attrs{Path: l}) != wantL {
			t.Errorf("% x: the answer changed: %s, %v, %v, %v", x, tell(a), n, l, ok)
		}
	}
}

// apart reports attributes of which one list reaches the memory of another.
func apart(t *testing.T, name string, a api.Attrs) {
	t.Helper()
	keep := roomyAttrs(a)
	scribble(append(a.Comms, 0), 0xbad)
	scribble(a.Comms, 0xbad)
	for i, s := range a.Path {
		scribble(append(s.AS, 0), 0xbad)
		scribble(s.AS, 0xbad)
		if tell(api.Attrs{Path: a.Path[i+1:]}) != tell(api.Attrs{Path: keep.Path[i+1:]}) {
			t.Errorf("%s: segment %d of %s", name, i, tell(keep))
		}
		copy(a.Path[i].AS, keep.Path[i].AS)
	}
	if tell(api.Attrs{Path: a.Path}) != tell(api.Attrs{Path: keep.Path}) || slices.ContainsFunc(a.Comms, func(n uint32) bool { return n != 0xbad }) {
		t.Errorf("%s: %s", name, tell(keep))
	}
}

// No two lists of one answer share memory, not even by their room.
func TestMemoryApart(t *testing.T) {
	for _, x := range mixed() {
		apart(t, "Norm", attr.Norm(x))
		a, _ := attr.Decode(plains(x))
		apart(t, "Decode", a)
		apart(t, "Path", api.Attrs{Path: must(attr.Path(plainPath(x.Path...)))})
	}
}
