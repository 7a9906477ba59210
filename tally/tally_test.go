package tally_test

import (
	"math"
	"slices"
	"testing"

	"confluence/api"
	"confluence/tally"
)

const (
	step = 1 << 30
	full = 1 << 39
)

// entry is a key and its counts.
type entry struct {
	key      uint32
	up, down int
}

// holds tells whether a tally has exactly these keys, which are in order, and their counts and sums.
func holds(t *tally.Tally, want ...entry) bool {
	keys := t.Keys()
	if len(keys) != len(want) {
		return false
	}
	up, down := 0, 0
	for i, w := range want {
		if keys[i] != w.key {
			return false
		}
		if u, d := t.Of(w.key); u != w.up || d != w.down {
			return false
		}
		up, down = up+w.up, down+w.down
	}
	u, d := t.Sum()
	return u == up && d == down
}

// of is a tally of some entries whose counts are such that Add takes them at once.
func of(t *testing.T, l ...entry) *tally.Tally {
	t.Helper()
	x := tally.New()
	for _, n := range l {
		if e := x.Add(n.key, n.up, n.down); e != api.OK {
			t.Fatal(n, e)
		}
	}
	return x
}

// double adds to a tally all that it has.
func double(t *testing.T, x *tally.Tally) {
	t.Helper()
	copied := tally.New()
	if e := copied.Join(x); e != api.OK {
		t.Fatal(e)
	}
	if e := x.Join(copied); e != api.OK {
		t.Fatal(e)
	}
}

// brimming is a tally whose keys have the greatest counts on both sides.
func brimming(t *testing.T, keys ...uint32) *tally.Tally {
	t.Helper()
	x := tally.New()
	for _, key := range keys {
		x.Add(key, step, step)
	}
	for range 9 {
		double(t, x)
	}
	return x
}

// upTo is the numbers below n.
func upTo(n int) []uint32 {
	var l []uint32
	for i := range n {
		l = append(l, uint32(i))
	}
	return l
}

// P5.1
func TestNew(t *testing.T) {
	a, b := tally.New(), tally.New()
	if a == nil || b == nil || !holds(a) || !holds(b) {
		t.Fatal("a new tally has something")
	}
	if up, down := a.Of(0); up != 0 || down != 0 {
		t.Error(up, down)
	}
	a.Add(1, 2, 3)
	if !holds(a, entry{1, 2, 3}) || !holds(b) {
		t.Error("two tallies share their counts")
	}
}

// P5.1
func TestAdd(t *testing.T) {
	x := tally.New()
	if e := x.Add(7, 2, 1); e != api.OK || !holds(x, entry{7, 2, 1}) {
		t.Error(e)
	}
	if e := x.Add(7, 1, 0); e != api.OK || !holds(x, entry{7, 3, 1}) {
		t.Error(e)
	}
	if e := x.Add(7, 0, 10); e != api.OK || !holds(x, entry{7, 3, 11}) {
		t.Error(e)
	}
	if e := x.Add(math.MaxUint32, 0, 5); e != api.OK || !holds(x, entry{7, 3, 11}, entry{math.MaxUint32, 0, 5}) {
		t.Error(e)
	}
	if e := x.Add(0, 4, 0); e != api.OK || !holds(x, entry{0, 4, 0}, entry{7, 3, 11}, entry{math.MaxUint32, 0, 5}) {
		t.Error(e)
	}
}

// P5.1: a key to which nothing is added is a key none the less.
func TestAddNothing(t *testing.T) {
	x := tally.New()
	if e := x.Add(3, 0, 0); e != api.OK || !holds(x, entry{3, 0, 0}) {
		t.Error(e)
	}
	if e := x.Add(3, 0, 0); e != api.OK || !holds(x, entry{3, 0, 0}) {
		t.Error(e)
	}
	if !x.Drop(3) || !holds(x) {
		t.Error("drop")
	}
}

// P5.1
func TestAddBounds(t *testing.T) {
	for _, n := range []int{0, 1, step - 1, step} {
		for _, m := range []int{0, 1, step - 1, step} {
			if x := tally.New(); x.Add(1, n, m) != api.OK || !holds(x, entry{1, n, m}) {
				t.Error(n, m)
			}
		}
	}
	for _, bad := range []int{-1, -2, -step, -step - 1, step + 1, 2 * step, full, full + 1, math.MinInt, math.MaxInt} {
		for _, good := range []int{0, 1, step} {
			x := of(t, entry{1, 5, 6})
			for _, key := range []uint32{1, 2} {
				if e := x.Add(key, bad, good); e != api.ErrArg {
					t.Error(key, bad, good, e)
				}
				if e := x.Add(key, good, bad); e != api.ErrArg {
					t.Error(key, good, bad, e)
				}
				if e := x.Add(key, bad, bad); e != api.ErrArg {
					t.Error(key, bad, bad, e)
				}
			}
			if !holds(x, entry{1, 5, 6}) {
				t.Error(bad, good, "an error changed something")
			}
		}
	}
	if e := tally.New().Add(7, -1, 0); e != api.ErrArg {
		t.Error(e)
	}
}

// P5.1: each count reaches 2^39, by steps and not beyond.
func TestAddFull(t *testing.T) {
	x := of(t, entry{9, 0, 3})
	for range full/step - 1 {
		if e := x.Add(9, step, 0); e != api.OK {
			t.Fatal(e)
		}
	}
	if e := x.Add(9, step-1, 0); e != api.OK || !holds(x, entry{9, full - 1, 3}) {
		t.Error(e)
	}
	for _, more := range []int{2, step} {
		if e := x.Add(9, more, 1); e != api.ErrFull || !holds(x, entry{9, full - 1, 3}) {
			t.Error(more, e)
		}
	}
	if e := x.Add(9, 1, 0); e != api.OK || !holds(x, entry{9, full, 3}) {
		t.Error(e)
	}
	if e := x.Add(9, 1, 0); e != api.ErrFull || !holds(x, entry{9, full, 3}) {
		t.Error(e)
	}
	if e := x.Add(9, 0, 4); e != api.OK || !holds(x, entry{9, full, 7}) {
		t.Error(e)
	}
	if e := x.Add(8, step, step); e != api.OK || !holds(x, entry{8, step, step}, entry{9, full, 7}) {
		t.Error(e)
	}
}

// P5.1: either count alone is enough to be full, and what is no number of Add is told ahead of that.
func TestAddFullSides(t *testing.T) {
	x := brimming(t, 4)
	if !holds(x, entry{4, full, full}) {
		t.Fatal(x.Of(4))
	}
	for _, more := range [][2]int{{1, 0}, {0, 1}, {1, 1}, {step, 0}, {0, step}} {
		if e := x.Add(4, more[0], more[1]); e != api.ErrFull {
			t.Error(more, e)
		}
	}
	for _, bad := range [][2]int{{-1, 0}, {0, -1}, {1, -1}, {-1, 1}, {step + 1, 0}, {0, step + 1}, {1, step + 1}} {
		if e := x.Add(4, bad[0], bad[1]); e != api.ErrArg {
			t.Error(bad, e)
		}
	}
	if e := x.Add(4, 0, 0); e != api.OK || !holds(x, entry{4, full, full}) {
		t.Error(e)
	}
}

// P5.1
func TestAddKeys(t *testing.T) {
	x := tally.New()
	for _, key := range upTo(api.MaxItems) {
		if e := x.Add(key, 1, 2); e != api.OK {
			t.Fatal(key, e)
		}
	}
	for _, key := range []uint32{api.MaxItems, math.MaxUint32} {
		for _, n := range []int{0, 1, step} {
			if e := x.Add(key, n, n); e != api.ErrFull {
				t.Error(key, n, e)
			}
		}
		if e := x.Add(key, -1, 0); e != api.ErrArg {
			t.Error(key, e)
		}
		if e := x.Add(key, 0, step+1); e != api.ErrArg {
			t.Error(key, e)
		}
		if up, down := x.Of(key); up != 0 || down != 0 {
			t.Error(key, up, down)
		}
	}
	if up, down := x.Sum(); up != api.MaxItems || down != 2*api.MaxItems || !slices.Equal(x.Keys(), upTo(api.MaxItems)) {
		t.Error(up, down, len(x.Keys()))
	}
	if e := x.Add(5, 1, 1); e != api.OK {
		t.Error(e)
	}
	if !x.Drop(5) || x.Add(math.MaxUint32, 1, 1) != api.OK || x.Add(5, 1, 1) != api.ErrFull {
		t.Error("a key that is dropped leaves room for one")
	}
}

// P5.1: the greatest sums that there can be.
func TestSum(t *testing.T) {
	x := brimming(t, upTo(api.MaxItems)...)
	if up, down := x.Sum(); up != api.MaxItems*full || down != api.MaxItems*full {
		t.Error(up, down)
	}
	x = of(t, entry{1, 10, 0}, entry{2, 200, 5}, entry{3, 3000, 70})
	if up, down := x.Sum(); up != 3210 || down != 75 {
		t.Error(up, down)
	}
}

// P5.1
func TestKeys(t *testing.T) {
	keys := []uint32{math.MaxUint32, 5, 0, 1 << 31, 256, 1, 255, 65536, 10000, 1<<31 - 1}
	want := slices.Sorted(slices.Values(keys))
	for range keys {
		keys = append(keys[1:], keys[0])
		x := tally.New()
		for _, key := range keys {
			x.Add(key, 1, 0)
			x.Add(key, 0, 1)
		}
		for range 5 {
			if got := x.Keys(); !slices.Equal(got, want) {
				t.Error(keys, got)
			}
		}
	}
}

// P5.1
func TestTurn(t *testing.T) {
	x := of(t, entry{1, 3, 1}, entry{2, 5, 0}, entry{3, 4, 4})
	x.Turn(1)
	if !holds(x, entry{1, 1, 3}, entry{2, 5, 0}, entry{3, 4, 4}) {
		t.Error("once")
	}
	x.Turn(2)
	x.Turn(3)
	if !holds(x, entry{1, 1, 3}, entry{2, 0, 5}, entry{3, 4, 4}) {
		t.Error("others")
	}
	x.Turn(1)
	if !holds(x, entry{1, 3, 1}, entry{2, 0, 5}, entry{3, 4, 4}) {
		t.Error("twice")
	}
	x.Turn(0)
	x.Turn(math.MaxUint32)
	if !holds(x, entry{1, 3, 1}, entry{2, 0, 5}, entry{3, 4, 4}) {
		t.Error("a key that is not there")
	}
	x = tally.New()
	x.Turn(1)
	if !holds(x) {
		t.Error("no keys")
	}
}

// P5.1
func TestDrop(t *testing.T) {
	x := of(t, entry{1, 3, 1}, entry{2, 5, 0}, entry{0, 1, 1})
	if x.Drop(3) || !holds(x, entry{0, 1, 1}, entry{1, 3, 1}, entry{2, 5, 0}) {
		t.Error("a key that is not there")
	}
	if !x.Drop(1) || !holds(x, entry{0, 1, 1}, entry{2, 5, 0}) {
		t.Error("a key")
	}
	if x.Drop(1) || !x.Drop(0) || !x.Drop(2) || x.Drop(2) || !holds(x) {
		t.Error("all keys")
	}
	if e := x.Add(1, 0, 2); e != api.OK || !holds(x, entry{1, 0, 2}) {
		t.Error("what was dropped comes back")
	}
	if tally.New().Drop(0) {
		t.Error("no keys")
	}
}

// P5.1
func TestNil(t *testing.T) {
	var x *tally.Tally
	for _, n := range []int{0, 1, -1, step + 1} {
		if e := x.Add(1, n, 0); e != api.ErrArg {
			t.Error(n, e)
		}
	}
	if up, down := x.Of(1); up != 0 || down != 0 {
		t.Error(up, down)
	}
	if up, down := x.Sum(); up != 0 || down != 0 {
		t.Error(up, down)
	}
	if l := x.Keys(); len(l) != 0 {
		t.Error(l)
	}
	if e := x.Join(of(t, entry{1, 1, 1})); e != api.ErrArg {
		t.Error(e)
	}
	if e := x.Join(nil); e != api.ErrArg {
		t.Error(e)
	}
	x.Turn(1)
	if x.Drop(1) {
		t.Error("drop")
	}
}

// A tally that New did not make is left open, but no call on it panics.
func TestZero(t *testing.T) {
	var x tally.Tally
	x.Turn(1)
	x.Drop(1)
	x.Keys()
	x.Sum()
	x.Of(1)
	x.Join(of(t, entry{1, 1, 1}))
	x.Add(2, 1, 1)
	tally.New().Join(&tally.Tally{})
}
