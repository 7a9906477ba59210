package nlri_test

import (
	"bytes"
	"slices"
	"testing"

	"confluence/api"
	"confluence/nlri"
)

// mark and markByte fill the memory behind a list, where nothing may be written either.
var mark = api.Prefix{Addr: 0xeeeeeeee, Len: 32}

const markByte = 0xee

// roomy is a copy of a list with room behind it, and the whole of its memory.
func roomy(l []api.Prefix) (list, whole []api.Prefix) {
	whole = append(slices.Clone(l), mark, mark, mark, mark)
	return whole[:len(l)], whole
}

// roomyBytes is the same of bytes.
func roomyBytes(b []byte) (list, whole []byte) {
	whole = append(bytes.Clone(b), markByte, markByte, markByte, markByte, markByte)
	return whole[:len(b)], whole
}

// scribble writes over all the memory that a list reaches.
func scribble[T any](l []T, x T) {
	l = l[:cap(l)]
	for i := range l {
		l[i] = x
	}
}

// mixed is lists to be handed in: of good prefixes, in order or not, some twice, and of others.
func mixed() [][]api.Prefix {
	l := five()
	return [][]api.Prefix{
		nil, {}, l, {l[0]}, {l[0], l[0], l[0]}, nlri.Sort(l...), {l[3], l[2], l[3], l[0], l[2]},
		append(append(slices.Clone(bad), l...), bad...), slices.Clone(bad), all(),
	}
}

// No call changes a list that is handed in, nor the memory behind it; nor does anything that is done with what it answers.
func TestMemoryLists(t *testing.T) {
	for name, call := range map[string]func(l []api.Prefix){
		"Fits":   func(l []api.Prefix) { nlri.Fits(l, 7) },
		"Encode": func(l []api.Prefix) { b, _ := nlri.Encode(l...); scribble(b, 0xbb) },
		"Sort":   func(l []api.Prefix) { scribble(nlri.Sort(l...), api.Prefix{Len: -7}) },
		"Pack": func(l []api.Prefix) {
			for room := range 30 {
				for _, run := range nlri.Pack(l, room) {
					scribble(run, api.Prefix{Len: -7})
				}
			}
		},
	} {
		for _, given := range mixed() {
			l, whole := roomy(given)
			keep := slices.Clone(whole)
			call(l)
			if !slices.Equal(whole, keep) {
				t.Errorf("%s of %v: %v", name, given, whole)
			}
		}
	}
}

// Bytes that are handed in are not changed, nor is what stands behind them read or changed.
func TestMemoryDecode(t *testing.T) {
	for _, given := range [][]byte{nil, {}, {9, 10, 0xff}, {9, 10}, {33, 1, 2, 3, 4, 5}, {8}, plains(five()...), plains(all()...)} {
		b, whole := roomyBytes(given)
		keep := bytes.Clone(whole)
		want, ok := unplain(given)
		l, e := nlri.Decode(b)
		if !slices.Equal(l, want) || (e == api.OK) != ok {
			t.Errorf("% x: %v, %v", given, l, e)
		}
		if !bytes.Equal(whole, keep) {
			t.Errorf("% x: % x", given, whole)
		}
		scribble(whole, 0xbb)
		if !slices.Equal(l, want) {
			t.Errorf("% x: the answer changed: %v", given, l)
		}
	}
}

// What is answered does not change with the list that was handed in.
func TestMemoryAnswers(t *testing.T) {
	for _, given := range mixed() {
		l, whole := roomy(given)
		b, _ := nlri.Encode(l...)
		sorted := nlri.Sort(l...)
		runs := nlri.Pack(l, 7)
		keepBytes, keepSorted := bytes.Clone(b), slices.Clone(sorted)
		var keepRuns [][]api.Prefix
		for _, run := range runs {
			keepRuns = append(keepRuns, slices.Clone(run))
		}
		scribble(whole, api.Prefix{Len: -7})
		if !bytes.Equal(b, keepBytes) || !slices.Equal(sorted, keepSorted) || !slices.EqualFunc(runs, keepRuns, slices.Equal) {
			t.Errorf("%v: % x, %v, %v", given, b, sorted, runs)
		}
	}
}

// No run reaches the memory of another one, not even by its room; nor do two answers share any.
func TestMemoryRuns(t *testing.T) {
	for room := range 30 {
		l := append(all(), five()...)
		runs, again := nlri.Pack(l, room), nlri.Pack(l, room)
		var keep [][]api.Prefix
		for _, run := range runs {
			keep = append(keep, slices.Clone(run))
		}
		for i, run := range runs {
			scribble(run, api.Prefix{Len: -7})
			scribble(append(run, api.Prefix{}), api.Prefix{Len: -7})
			if !slices.EqualFunc(runs[i+1:], keep[i+1:], slices.Equal) {
				t.Fatalf("room for %d: run %d reaches those behind it", room, i)
			}
			copy(run, keep[i])
			if !slices.EqualFunc(runs[:i], keep[:i], slices.Equal) {
				t.Fatalf("room for %d: run %d reaches those ahead of it", room, i)
			}
		}
		scribble(runs, nil)
		if !slices.EqualFunc(again, keep, slices.Equal) {
			t.Fatalf("room for %d: two answers share memory", room)
		}
	}
}

// Two answers of one call's arguments share nothing.
func TestMemoryTwice(t *testing.T) {
	l := append(all(), five()...)
	b, other := must(nlri.Encode(l...)), must(nlri.Encode(l...))
	scribble(b, 0xbb)
	if !bytes.Equal(other, plains(l...)) {
		t.Error("Encode")
	}
	read, again := must(nlri.Decode(other)), must(nlri.Decode(other))
	scribble(read, api.Prefix{Len: -7})
	if !slices.Equal(again, l) {
		t.Error("Decode")
	}
	one, two := nlri.Sort(l...), nlri.Sort(l...)
	keep := slices.Clone(two)
	scribble(one, api.Prefix{Len: -7})
	if !slices.Equal(two, keep) {
		t.Error("Sort")
	}
}

// must is a list that was answered, whose code is asked for elsewhere.
func must[T any](l []T, _ api.Errno) []T {
	return l
}
