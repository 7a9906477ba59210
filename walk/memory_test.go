package walk_test

import (
	"slices"
	"testing"

	"confluence/api"
	"confluence/walk"
)

// mark fills the memory behind a list, where nothing may be written either. It is not good, so that it would be no answer.
var mark = api.Prefix{Addr: 0xeeeeeeee, Len: -14}

// roomy is a copy of a list with room behind it, and the whole of its memory.
func roomy(l []api.Prefix) (list, whole []api.Prefix) {
	whole = append(slices.Clone(l), mark, mark, mark, mark)
	return whole[:len(l)], whole
}

// smear writes over all the memory that a list reaches, and behind it.
func smear(l []api.Prefix) {
	for _, l := range [][]api.Prefix{l[:cap(l)], append(l, at(7, 7))} {
		for i := range l {
			l[i] = at(0xbad, -7)
		}
	}
}

// given is lists to be handed in: in order or not, merged or not, some twice, and with others that are not good.
func given() [][]api.Prefix {
	l := edge()
	sorted := slices.Clone(l[:12])
	slices.SortFunc(sorted, before)
	return [][]api.Prefix{
		nil, {}, l, sorted, list("10.0.0.0/8"), list("10.0.0.0/8", "10.0.0.0/8"), list("10.128.0.0/9", "10.0.0.0/9"),
		list("10.0.0.0/9", "11.0.0.0/9", "12.0.0.0/9"), list("0.0.0.0/0"), list("10.0.0.1/32", "10.0.0.3/32"),
		append(slices.Clone(bad), l...), append(slices.Clone(l), bad...), slices.Clone(bad),
	}
}

// asks is all calls that answer lists, each on two lists.
func asks() map[string]func(a, b []api.Prefix) []api.Prefix {
	p := one("10.0.0.0/8")
	return map[string]func(a, b []api.Prefix) []api.Prefix{
		"Tops":  func(a, _ []api.Prefix) []api.Prefix { return walk.Tops(a...) },
		"Merge": func(a, _ []api.Prefix) []api.Prefix { return walk.Merge(a...) },
		"Minus": func(a, _ []api.Prefix) []api.Prefix { return walk.Minus(p, a...) },
		"Both":  walk.Both,
		"Range": func(a, _ []api.Prefix) []api.Prefix { return walk.Range(1, uint32(len(a))+1) },
		"Steps": func(a, _ []api.Prefix) []api.Prefix { return walk.Steps(p, len(a)) },
		"Span":  func(a, _ []api.Prefix) []api.Prefix { walk.Span(a...); return nil },
	}
}

// No call changes a list that is handed in, nor the memory behind it, nor does it read there; nor does anything that is done with what it answers change one.
func TestMemoryGiven(t *testing.T) {
	for name, ask := range asks() {
		for _, a := range given() {
			for _, b := range given() {
				want := ask(slices.Clone(a), slices.Clone(b))
				l, wholeL := roomy(a)
				m, wholeM := roomy(b)
				keepL, keepM := slices.Clone(wholeL), slices.Clone(wholeM)
				got := ask(l, m)
				same(t, name, got, want, a, b)
				smear(got)
				if !slices.Equal(wholeL, keepL) || !slices.Equal(wholeM, keepM) {
					t.Errorf("%s of %v and %v: %v, %v", name, a, b, wholeL, wholeM)
				}
			}
		}
	}
}

// What is answered does not change with the lists that were handed in, nor with another answer; nor does it change what is answered later.
func TestMemoryAnswers(t *testing.T) {
	for name, ask := range asks() {
		for _, a := range given() {
			for _, b := range given() {
				l, wholeL := roomy(a)
				m, wholeM := roomy(b)
				got, other := ask(l, m), ask(l, m)
				want := slices.Clone(got)
				smear(other)
				same(t, name, got, want, a, b)
				same(t, name+" again", ask(l, m), want, a, b)
				smear(wholeL)
				smear(wholeM)
				same(t, name+" kept", got, want, a, b)
			}
		}
	}
}

// The same list may be handed in twice.
func TestMemoryTwice(t *testing.T) {
	for _, a := range given() {
		want := walk.Merge(a...)
		l, whole := roomy(a)
		keep := slices.Clone(whole)
		same(t, "Both", walk.Both(l, l), want, a)
		same(t, "Both of it and a part of it", walk.Both(l, l[:len(l)/2]), walk.Merge(a[:len(a)/2]...), a)
		if !slices.Equal(whole, keep) {
			t.Error(a, whole)
		}
	}
}
