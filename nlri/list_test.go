package nlri_test

import (
	"math"
	"slices"
	"testing"

	"confluence/api"
	"confluence/nlri"
)

// pool are prefixes of every number of bytes, from one to five, and two that are not good.
var pool = []api.Prefix{
	{}, {Addr: 0x0a000000, Len: 8}, {Addr: 0x0a800000, Len: 9}, {Addr: 0x01020300, Len: 24}, {Addr: 0x01020380, Len: 25},
	{Addr: 0x01020304, Len: 32}, {Addr: 0x0a000001, Len: 8}, {Len: 33},
}

// rows shows every list of up to four prefixes of the pool.
func rows(show func(l []api.Prefix)) {
	show(nil)
	for n := range 8 * 8 * 8 * 8 {
		l := []api.Prefix{pool[n%8], pool[n/8%8], pool[n/64%8], pool[n/512%8]}
		for size := 1; size <= 4; size++ {
			show(l[:size:size])
		}
	}
}

// isGood tells whether the length fits and no bit stands behind it.
func isGood(p api.Prefix) bool {
	return p.Len >= 0 && p.Len <= 32 && first(p.Addr, p.Len) == p.Addr
}

// sum is how many bytes the good ones of a list have.
func sum(l []api.Prefix) int {
	n := 0
	for _, p := range l {
		if isGood(p) {
			n += len(plain(p))
		}
	}
	return n
}

// ahead tells whether p stands ahead of q: by address, then by length.
func ahead(p, q api.Prefix) bool {
	return p.Addr < q.Addr || p.Addr == q.Addr && p.Len < q.Len
}

// P7.2

func TestFits(t *testing.T) {
	// The prefixes of the example have 2, 1, 5, 5 and 2 bytes.
	for room, want := range map[int]int{
		math.MinInt: 0, -2: 0, -1: 0, 0: 0, 1: 0, 2: 1, 3: 2, 4: 2, 7: 2, 8: 3, 9: 3, 12: 3, 13: 4, 14: 4, 15: 5, 16: 5, math.MaxInt: 5,
	} {
		if n := nlri.Fits(five(), room); n != want {
			t.Errorf("room for %d: %d, not %d", room, n, want)
		}
	}
	for _, room := range []int{math.MinInt, -1, 0, 1, 5, math.MaxInt} {
		if n := nlri.Fits(nil, room); n != 0 {
			t.Errorf("nothing in %d: %d", room, n)
		}
	}
	for _, p := range all() {
		size := len(plain(p))
		for room, want := range map[int]int{0: 0, size - 1: 0, size: 1, 2*size - 1: 1, 2 * size: 2, 3*size - 1: 2, 3 * size: 3, 4 * size: 3} {
			if n := nlri.Fits([]api.Prefix{p, p, p}, room); n != want {
				t.Errorf("%v three times in %d: %d, not %d", p, room, n, want)
			}
		}
	}
}

// Each list of the pool, in each room: a prefix that is not good has no bytes, and takes no room.
func TestFitsRows(t *testing.T) {
	rows(func(l []api.Prefix) {
		for room := -2; room <= 21; room++ {
			want := 0
			for want < len(l) && sum(l[:want+1]) <= room {
				want++
			}
			if n := nlri.Fits(l, room); n != want {
				t.Errorf("%v in %d: %d, not %d", l, room, n, want)
			}
		}
	})
	for _, b := range bad {
		for room, want := range map[int]int{-1: 0, 0: 2, 1: 2, 2: 4, 3: 4} {
			if n := nlri.Fits([]api.Prefix{b, b, five()[0], b, five()[0]}, room); n != want {
				t.Errorf("%v in %d: %d, not %d", b, room, n, want)
			}
		}
	}
}

func TestSort(t *testing.T) {
	want := []api.Prefix{{}, five()[0], {Addr: 0x0a000000, Len: 9}, {Addr: 1 << 31, Len: 1}, {Addr: 1 << 31, Len: 2}, five()[2], five()[3]}
	for turn := range want {
		l := append(slices.Clone(want[turn:]), want[:turn]...)
		back := slices.Clone(l)
		slices.Reverse(back)
		for _, x := range [][]api.Prefix{l, back, append(back, l...), append(slices.Clone(bad), append(l, bad...)...)} {
			if got := nlri.Sort(x...); !slices.Equal(got, want) {
				t.Errorf("%v: %v", x, got)
			}
		}
	}
	if l := nlri.Sort(); len(l) != 0 {
		t.Error(l)
	}
	if l := nlri.Sort(bad...); len(l) != 0 {
		t.Error(l)
	}
	for _, b := range bad {
		if l := nlri.Sort(b); len(l) != 0 {
			t.Error(b, l)
		}
		if l := nlri.Sort(five()[2], b, five()[0], b); !slices.Equal(l, []api.Prefix{five()[0], five()[2]}) {
			t.Error(b, l)
		}
	}
}

// sorts reports a list that is not put in order, with just its good prefixes.
func sorts(t *testing.T, l []api.Prefix) {
	t.Helper()
	got := nlri.Sort(l...)
	for i, p := range got {
		if i > 0 && !ahead(got[i-1], p) {
			t.Errorf("%v: %v", l, got)
		}
		if !isGood(p) || !slices.Contains(l, p) {
			t.Errorf("%v: %v told of nothing", l, p)
		}
	}
	for _, p := range l {
		if isGood(p) && !slices.Contains(got, p) {
			t.Errorf("%v: %v is lost", l, p)
		}
	}
}

func TestSortRows(t *testing.T) {
	rows(func(l []api.Prefix) { sorts(t, l) })
	l := append(all(), bad...)
	sorts(t, l)
	slices.Reverse(l)
	sorts(t, append(l, l...))
}

// packs reports a list that is not split into the runs that are wanted.
func packs(t *testing.T, l []api.Prefix, room int, want ...[]api.Prefix) {
	t.Helper()
	if got := nlri.Pack(l, room); !slices.EqualFunc(got, want, slices.Equal) {
		t.Errorf("%v in %d: %v, not %v", l, room, got, want)
	}
}

func TestPack(t *testing.T) {
	l := five()
	packs(t, l, 5, l[:2], l[2:3], l[3:4], l[4:])
	packs(t, l, 15, l)
	packs(t, l, 14, l[:4], l[4:])
	packs(t, l, 13, l[:4], l[4:])
	packs(t, l, 12, l[:3], l[3:])
	packs(t, l, 8, l[:3], l[3:])
	packs(t, l, 7, l[:2], l[2:3], l[3:])
	packs(t, l, math.MaxInt, l)
	packs(t, []api.Prefix{l[0], l[0], l[0]}, 4, []api.Prefix{l[0], l[0]}, []api.Prefix{l[0]})
	for _, room := range []int{math.MinInt, -1, 0, 1, 5, math.MaxInt} {
		packs(t, nil, room)
		packs(t, bad, room)
	}
	for _, room := range []int{math.MinInt, -5, -1, 0} {
		packs(t, l, room)
	}
}

// What is left out ends no run: neither what does not fit by itself nor what is not good.
func TestPackOmits(t *testing.T) {
	l := five()
	packs(t, l, 4, []api.Prefix{l[0], l[1]}, []api.Prefix{l[4]})
	packs(t, l, 3, []api.Prefix{l[0], l[1]}, []api.Prefix{l[4]})
	packs(t, l, 2, []api.Prefix{l[0]}, []api.Prefix{l[1]}, []api.Prefix{l[4]})
	packs(t, l, 1, []api.Prefix{{}})
	packs(t, []api.Prefix{{}, l[2], {}, l[2]}, 4, []api.Prefix{{}, {}})
	packs(t, []api.Prefix{l[2], {}, {}, {}, l[2], {}, {}}, 4, []api.Prefix{{}, {}, {}, {}}, []api.Prefix{{}})
	packs(t, []api.Prefix{l[2]}, 4)
	for _, b := range bad {
		packs(t, []api.Prefix{b}, 5)
		packs(t, []api.Prefix{b, l[0], b, l[1], b, l[2], b}, 5, l[:2], l[2:3])
		packs(t, []api.Prefix{{}, b, {}, l[2], {}, b}, 3, []api.Prefix{{}, {}, {}})
	}
}

// Each list of the pool, in each room, against a reckoning that goes prefix by prefix.
func TestPackRows(t *testing.T) {
	rows(func(l []api.Prefix) {
		for room := -2; room <= 21; room++ {
			var want [][]api.Prefix
			left := 0
			for _, p := range l {
				if !isGood(p) || len(plain(p)) > room {
					continue
				}
				if want == nil || len(plain(p)) > left {
					want, left = append(want, nil), room
				}
				left -= len(plain(p))
				want[len(want)-1] = append(want[len(want)-1], p)
			}
			packs(t, l, room, want...)
		}
	})
}

// Many prefixes of four bytes: 1018 of them have 4072 bytes.
func TestPackMany(t *testing.T) {
	var l []api.Prefix
	for i := range 2500 {
		l = append(l, api.Prefix{Addr: 0x0a000000 + uint32(i)<<8, Len: 24})
	}
	packs(t, l, 4073, l[:1018], l[1018:2036], l[2036:])
	packs(t, l, 4072, l[:1018], l[1018:2036], l[2036:])
	packs(t, l, 4071, l[:1017], l[1017:2034], l[2034:])
	packs(t, l, 10000, l)
	packs(t, l, 9999, l[:2499], l[2499:])
	packs(t, l, 3)
}

// P7.3

// Together the runs are the list, without what is left out, however great the room is.
func TestPackJoined(t *testing.T) {
	l := append(all(), bad...)
	l = append(l, l...)
	for room := -1; room < 3000; room++ {
		var want []api.Prefix
		for _, p := range l {
			if isGood(p) && len(plain(p)) <= room {
				want = append(want, p)
			}
		}
		runs := nlri.Pack(l, room)
		if got := slices.Concat(runs...); !slices.Equal(got, want) {
			t.Fatal(room)
		}
		for i, run := range runs {
			if len(run) == 0 || sum(run) > room || i > 0 && sum(runs[i-1])+len(plain(run[0])) <= room {
				t.Fatal(room, i)
			}
		}
	}
}
