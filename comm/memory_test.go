package comm_test

import (
	"slices"
	"testing"

	"confluence/api"
	"confluence/comm"
)

// Lists that only are looked at stay as they are, and so does the room behind them.
func TestMemoryAsked(t *testing.T) {
	const mark = 0xdecade
	for _, l := range [][]uint32{nil, {5}, {noSubconfed, 5, noAdvertise, 5, 0}, {0, 1, 2}} {
		whole := append(slices.Clone(l), mark, mark, mark, mark)
		keep := slices.Clone(whole)
		comm.Keeps(whole[:len(l)])
		comm.Texts(whole[:len(l)])
		if !slices.Equal(whole, keep) {
			t.Error(l, whole)
		}
	}
}

// Two answers share no memory.
func TestMemoryParseAll(t *testing.T) {
	const text = "1:1 1:2 no-export"
	a, e := comm.ParseAll(text)
	b, f := comm.ParseAll(text)
	for i := range a[:cap(a)] {
		a[:cap(a)][i] = 0xbad
	}
	if c, g := comm.ParseAll(text); e != api.OK || f != api.OK || g != api.OK || !slices.Equal(b, c) || comm.Texts(b) != text {
		t.Error(b, c, e, f, g)
	}
}
