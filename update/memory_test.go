package update_test

import (
	"bytes"
	"slices"
	"testing"

	"confluence/api"
	"confluence/update"
)

// roomy is a copy of a list with room behind it, in which x stands.
func roomy[T any](l []T, x T) []T {
	return append(slices.Clone(l), x, x, x, x, x)[:len(l)]
}

// copied is a copy of an Update with room behind all its lists.
func copied(u api.Update) api.Update {
	mark := at(0xeeeeeeee, 32)
	u.Gone, u.Here = roomy(u.Gone, mark), roomy(u.Here, mark)
	u.Attrs.Comms = roomy(u.Attrs.Comms, 0xee)
	u.Attrs.Path = roomy(u.Attrs.Path, api.Seg{Kind: 0xee, AS: []uint32{0xee}})
	for i, s := range u.Attrs.Path {
		u.Attrs.Path[i].AS = roomy(s.AS, 0xee)
	}
	return u
}

// reach is all the memory that an Update reaches, the room behind its lists too, as a text.
func reach(u api.Update) string {
	u.Gone, u.Here = u.Gone[:cap(u.Gone)], u.Here[:cap(u.Here)]
	u.Attrs.Comms = u.Attrs.Comms[:cap(u.Attrs.Comms)]
	u.Attrs.Path = slices.Clone(u.Attrs.Path[:cap(u.Attrs.Path)])
	for i, s := range u.Attrs.Path {
		u.Attrs.Path[i].AS = s.AS[:cap(s.AS)]
	}
	return tell(u)
}

// scribble writes over all the memory that a list reaches.
func scribble[T any](l []T, x T) {
	l = l[:cap(l)]
	for i := range l {
		l[i] = x
	}
}

// blot writes over all the memory that an Update reaches.
func blot(u api.Update) {
	scribble(u.Gone, at(7, -7))
	scribble(u.Here, at(7, -7))
	scribble(u.Attrs.Comms, 0xbad)
	for _, s := range u.Attrs.Path[:cap(u.Attrs.Path)] {
		scribble(s.AS, 0xbad)
	}
	scribble(u.Attrs.Path, api.Seg{Kind: 0xbad})
}

// given are Updates to be handed in, good ones and others.
func given() []api.Update {
	return slices.Concat(goods(), bads(), unlike(), nearer(1))
}

// No call changes an Update that is handed in, nor the memory behind its lists; nor does anything that is done with what it answers.
func TestMemoryUpdate(t *testing.T) {
	for name, call := range map[string]func(u api.Update){
		"Good":   func(u api.Update) { update.Good(u) },
		"Encode": func(u api.Update) { b, _ := update.Encode(u); scribble(b, 0xbb) },
		"Size":   func(u api.Update) { update.Size(u) },
		"Same":   func(u api.Update) { update.Same(u, u); update.Same(u, api.Update{}); update.Same(unlike()[1], u) },
		"Room":   func(u api.Update) { update.Room(u.Attrs) },
	} {
		for _, x := range given() {
			u := copied(x)
			keep := reach(u)
			call(u)
			if reach(u) != keep {
				t.Errorf("%s of %s", name, tell(x))
			}
		}
	}
}

// What is answered does not change with the Update that was handed in, nor with the next answer.
func TestMemoryEncode(t *testing.T) {
	for _, x := range given() {
		u := copied(x)
		b, _ := update.Encode(u)
		want := bytes.Clone(b)
		next, _ := update.Encode(u)
		scribble(next, 0xbb)
		_ = append(next, 0xbb, 0xbb)
		blot(u)
		if !bytes.Equal(b, want) {
			t.Errorf("%s: % x", tell(x), b)
		}
	}
}

// pieces are bytes of every sort, right ones and wrong ones.
func pieces() [][]byte {
	all := [][]byte{nil, {}, {0}, {0, 1, 33}, {0, 0, 0, 0, 0}, join([]byte{0, 0}, long(need), []byte{33})}
	for _, u := range goods() {
		all = append(all, plain(u), append(plain(u), 8))
	}
	for _, x := range mistakes() {
		all = append(all, join([]byte{0, 2, 8, 10}, long(x.b), []byte{0}))
	}
	return all
}

// Bytes that are handed in are not changed, nor is what stands behind them read or changed; and what is answered is neither they nor the next answer.
func TestMemoryDecode(t *testing.T) {
	for _, x := range pieces() {
		b := roomy(x, 0)
		keep := bytes.Clone(b[:cap(b)])
		want, wantN := plainDecode(x)
		u, n := update.Decode(b)
		again, m := update.Decode(b)
		blot(again)
		scribble(m.Data, 0xbb)
		if !bytes.Equal(b[:cap(b)], keep) {
			t.Errorf("% x: % x", x, b[:cap(b)])
		}
		scribble(b, 0xbb)
		if tell(u) != tell(want) || !same(n, wantN.Code, wantN.Sub, wantN.Data...) {
			t.Errorf("% x: %s, %v", x, tell(u), n)
		}
	}
}

// No list of an answer reaches the memory of another one, not even by its room.
func TestMemoryApart(t *testing.T) {
	for _, x := range goods() {
		for list, spoil := range map[string]func(u, given *api.Update){
			"Gone":  func(u, given *api.Update) { smear(u.Gone, at(7, -7)); u.Gone = given.Gone },
			"Here":  func(u, given *api.Update) { smear(u.Here, at(7, -7)); u.Here = given.Here },
			"Comms": func(u, given *api.Update) { smear(u.Attrs.Comms, 0xbad); u.Attrs.Comms = given.Attrs.Comms },
			"Path":  func(u, given *api.Update) { smear(u.Attrs.Path, api.Seg{Kind: 0xbad}); u.Attrs.Path = given.Attrs.Path },
			"AS": func(u, given *api.Update) {
				for i, s := range u.Attrs.Path {
					smear(s.AS, 0xbad)
					u.Attrs.Path[i].AS = given.Attrs.Path[i].AS
				}
			},
		} {
			u, _ := update.Decode(plain(x))
			spoil(&u, &x)
			// What was written over is as it was given again: all else must still be so.
			if tell(u) != tell(x) {
				t.Errorf("%s of %s: %s", list, tell(x), tell(u))
			}
		}
	}
}

// smear writes over a list, and behind it.
func smear[T any](l []T, x T) {
	scribble(append(l, x), x)
	scribble(l, x)
}
