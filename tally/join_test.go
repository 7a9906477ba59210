package tally_test

import (
	"math"
	"slices"
	"testing"

	"confluence/api"
	"confluence/tally"
)

// P5.1
func TestJoin(t *testing.T) {
	x := of(t, entry{1, 3, 1}, entry{5, 0, 2})
	o := of(t, entry{0, 7, 0}, entry{5, 10, 20}, entry{math.MaxUint32, 1, 1}, entry{3, 0, 0})
	if e := x.Join(o); e != api.OK || !holds(x, entry{0, 7, 0}, entry{1, 3, 1}, entry{3, 0, 0}, entry{5, 10, 22}, entry{math.MaxUint32, 1, 1}) {
		t.Error(e)
	}
	if !holds(o, entry{0, 7, 0}, entry{3, 0, 0}, entry{5, 10, 20}, entry{math.MaxUint32, 1, 1}) {
		t.Error("the other changed")
	}
	x.Add(0, 1, 1)
	x.Drop(3)
	o.Turn(5)
	if !holds(x, entry{0, 8, 1}, entry{1, 3, 1}, entry{5, 10, 22}, entry{math.MaxUint32, 1, 1}) || !holds(o, entry{0, 7, 0}, entry{3, 0, 0}, entry{5, 20, 10}, entry{math.MaxUint32, 1, 1}) {
		t.Error("the two share their counts")
	}
	if e := x.Join(tally.New()); e != api.OK || !holds(x, entry{0, 8, 1}, entry{1, 3, 1}, entry{5, 10, 22}, entry{math.MaxUint32, 1, 1}) {
		t.Error("nothing joined", e)
	}
	if x := tally.New(); x.Join(o) != api.OK || !holds(x, entry{0, 7, 0}, entry{3, 0, 0}, entry{5, 20, 10}, entry{math.MaxUint32, 1, 1}) {
		t.Error("joined to nothing")
	}
}

// P5.1
func TestJoinWrong(t *testing.T) {
	x := of(t, entry{1, 3, 1})
	if e := x.Join(nil); e != api.ErrArg || !holds(x, entry{1, 3, 1}) {
		t.Error(e)
	}
	if e := x.Join(x); e != api.ErrArg || !holds(x, entry{1, 3, 1}) {
		t.Error(e)
	}
	if x := tally.New(); x.Join(x) != api.ErrArg || x.Join(nil) != api.ErrArg {
		t.Error("an empty one")
	}
	if x := brimming(t, 1); x.Join(x) != api.ErrArg || !holds(x, entry{1, full, full}) {
		t.Error("a full one")
	}
}

// P5.1: counts beyond the bound that Add has.
func TestJoinGreat(t *testing.T) {
	o := brimming(t, 1, 2)
	x := tally.New()
	if e := x.Join(o); e != api.OK || !holds(x, entry{1, full, full}, entry{2, full, full}) {
		t.Error(e)
	}
}

// P5.1: the first key that finds no room ends it, and what was added ahead of it remains.
func TestJoinStops(t *testing.T) {
	for _, side := range []entry{{5, 1, 0}, {5, 0, 1}, {5, 1, 1}, {5, step, step}} {
		x := brimming(t, 5)
		o := of(t, entry{9, 1, 1}, side, entry{2, 3, 4}, entry{4, 0, 0})
		if e := x.Join(o); e != api.ErrFull || !holds(x, entry{2, 3, 4}, entry{4, 0, 0}, entry{5, full, full}) {
			t.Error(side, e, x.Keys())
		}
		if e := x.Join(o); e != api.ErrFull || !holds(x, entry{2, 6, 8}, entry{4, 0, 0}, entry{5, full, full}) {
			t.Error(side, e, x.Keys())
		}
	}
	x := brimming(t, 5)
	if e := x.Join(of(t, entry{9, 1, 1}, entry{5, 0, 0}, entry{2, 3, 4})); e != api.OK || !holds(x, entry{2, 3, 4}, entry{5, full, full}, entry{9, 1, 1}) {
		t.Error(e)
	}
}

// P5.1: a count reaches 2^39 by joining, and does not exceed it by one.
func TestJoinBounds(t *testing.T) {
	for _, more := range []int{0, 1, 2} {
		x := brimming(t, 5)
		x.Drop(5)
		x.Add(5, 1, 0)
		o := tally.New()
		for range full/step - 1 {
			o.Add(5, step, 0)
		}
		o.Add(5, step-2, 0)
		o.Add(5, more, 0)
		e := x.Join(o)
		if up, _ := x.Of(5); more < 2 && (e != api.OK || up != full-1+more) || more == 2 && (e != api.ErrFull || up != 1) {
			t.Error(more, e, up)
		}
	}
}

// P5.1: as many keys as there is room for, the least ones.
func TestJoinKeys(t *testing.T) {
	x := tally.New()
	for _, key := range upTo(api.MaxItems - 2) {
		x.Add(key+100, 1, 0)
	}
	o := of(t, entry{20000, 1, 1}, entry{7, 1, 1}, entry{90000, 1, 1}, entry{101, 5, 5}, entry{20001, 1, 1}, entry{150, 1, 1})
	if e := x.Join(o); e != api.ErrFull || len(x.Keys()) != api.MaxItems {
		t.Error(e, len(x.Keys()))
	}
	for _, w := range []entry{{7, 1, 1}, {101, 6, 5}, {150, 2, 1}, {20000, 1, 1}, {20001, 0, 0}, {90000, 0, 0}} {
		if up, down := x.Of(w.key); up != w.up || down != w.down {
			t.Error(w, up, down)
		}
	}
	if up, down := x.Sum(); up != api.MaxItems-2+8 || down != 8 {
		t.Error(up, down)
	}
	if e := x.Join(of(t, entry{101, 1, 1}, entry{7, 1, 1})); e != api.OK {
		t.Error("no new keys", e)
	}
}

// P5.3
func TestOrder(t *testing.T) {
	adds := []entry{{1, 3, 0}, {1, 0, 4}, {2, step, 1}, {0, 0, 0}, {2, step, step}, {math.MaxUint32, 5, 6}}
	want := []entry{{0, 0, 0}, {1, 3, 4}, {2, 2 * step, step + 1}, {math.MaxUint32, 5, 6}}
	orders(adds, func(l []entry) {
		if x := of(t, l...); !holds(x, want...) {
			t.Error(l)
		}
		x, y := of(t, l[:2]...), of(t, l[2:]...)
		if e := x.Join(y); e != api.OK || !holds(x, want...) {
			t.Error(l, "joined", e)
		}
	})
}

// orders shows every order of l.
func orders(l []entry, see func([]entry)) {
	var place func(n int)
	place = func(n int) {
		if n == len(l) {
			see(l)
		}
		for i := n; i < len(l); i++ {
			l[n], l[i] = l[i], l[n]
			place(n + 1)
			l[n], l[i] = l[i], l[n]
		}
	}
	l = slices.Clone(l)
	place(0)
}

// plain is a tally by a list that is gone through from its begin, in order of the keys.
type plain []entry

func (p plain) place(key uint32) int {
	for i, n := range p {
		if n.key >= key {
			return i
		}
	}
	return len(p)
}

func (p plain) has(key uint32) bool {
	i := p.place(key)
	return i < len(p) && p[i].key == key
}

// with is a plain tally with more for a key, or as it was and false where a count would be too great.
func (p plain) with(n entry) (plain, bool) {
	p = slices.Clone(p)
	i := p.place(n.key)
	if !p.has(n.key) {
		p = slices.Insert(p, i, entry{key: n.key})
	}
	p[i].up += n.up
	p[i].down += n.down
	return p, p[i].up <= full && p[i].down <= full
}

// Many calls one after another on three tallies, held against plain ones.
func TestMany(t *testing.T) {
	seed := uint32(1)
	next := func(n int) int {
		seed = seed*1664525 + 1013904223
		return int(seed>>8) % n
	}
	numbers := []int{-1, 0, 0, 1, 2, 3, step, step, step, step + 1}
	var made [3]*tally.Tally
	var want [3]plain
	for i := range made {
		made[i] = tally.New()
	}
	seen := map[api.Errno]int{}
	for range 200000 {
		i, key := next(3), uint32(next(6))
		x := made[i]
		switch next(12) {
		case 0:
			if x.Drop(key) != want[i].has(key) {
				t.Fatal("drop", key)
			}
			if want[i].has(key) {
				p := want[i].place(key)
				want[i] = slices.Delete(slices.Clone(want[i]), p, p+1)
			}
		case 1, 2:
			x.Turn(key)
			if p := want[i].place(key); want[i].has(key) {
				want[i] = slices.Clone(want[i])
				want[i][p].up, want[i][p].down = want[i][p].down, want[i][p].up
			}
		case 3, 4, 5:
			o := next(3)
			e, must := x.Join(made[o]), api.OK
			if o == i {
				must = api.ErrArg
			} else {
				for _, n := range want[o] {
					p, ok := want[i].with(n)
					if !ok {
						must = api.ErrFull
						break
					}
					want[i] = p
				}
			}
			if e != must {
				t.Fatal("join", i, o, e, must)
			}
			seen[e]++
		default:
			n := entry{key, numbers[next(len(numbers))], numbers[next(len(numbers))]}
			e, must := x.Add(key, n.up, n.down), api.OK
			if p, ok := want[i].with(n); n.up < 0 || n.up > step || n.down < 0 || n.down > step {
				must = api.ErrArg
			} else if !ok {
				must = api.ErrFull
			} else {
				want[i] = p
			}
			if e != must {
				t.Fatal("add", n, e, must)
			}
			seen[e]++
		}
		for i := range made {
			if !holds(made[i], want[i]...) {
				t.Fatal(i, made[i].Keys(), want[i])
			}
		}
	}
	if seen[api.OK] < 1000 || seen[api.ErrArg] < 1000 || seen[api.ErrFull] < 1000 {
		t.Error(seen)
	}
}

// What is answered is new memory: writing over it changes neither the tally nor the next answer.
func TestMemory(t *testing.T) {
	x := of(t, entry{3, 1, 1}, entry{1, 2, 2}, entry{2, 3, 3})
	for range 3 {
		l := x.Keys()
		again := x.Keys()
		l = l[:cap(l)]
		for i := range l {
			l[i] = 0xbad
		}
		if !slices.Equal(again, []uint32{1, 2, 3}) || !holds(x, entry{1, 2, 2}, entry{2, 3, 3}, entry{3, 1, 1}) {
			t.Error(again)
		}
	}
	l := x.Keys()
	x.Drop(2)
	x.Add(9, 1, 1)
	if !slices.Equal(l, []uint32{1, 2, 3}) {
		t.Error(l)
	}
}
