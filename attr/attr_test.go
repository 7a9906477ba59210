package attr_test

import (
	"fmt"
	"math"
	"slices"
	"testing"

	"confluence/api"
	"confluence/attr"
)

// The bits of Has, one a type.
const (
	origin     = 1 << 1
	pathed     = 1 << 2
	hop        = 1 << 3
	med        = 1 << 4
	pref       = 1 << 5
	atomic     = 1 << 6
	aggregator = 1 << 7
	comms      = 1 << 8
	whole      = 0x1fe
)

// seq and set are segments; other is one that is neither.
func seq(l ...uint32) api.Seg { return api.Seg{Kind: 2, AS: l} }
func set(l ...uint32) api.Seg { return api.Seg{Kind: 1, AS: l} }
func other(kind int, l ...uint32) api.Seg {
	return api.Seg{Kind: kind, AS: l}
}

// way is a path of segments.
func way(l ...api.Seg) []api.Seg { return l }

// count is the numbers from from on, size of them, rising.
func count(from uint32, size int) []uint32 {
	var l []uint32
	for i := range size {
		l = append(l, from+uint32(i))
	}
	return l
}

// long is a path of sequences that has size numbers in all, cut as it must be.
func long(size int) []api.Seg {
	var l []api.Seg
	for part := range slices.Chunk(count(1, size), 255) {
		l = append(l, seq(part...))
	}
	return l
}

// full has all eight, each with something in it.
func full() api.Attrs {
	return api.Attrs{
		Has: whole, Origin: 1, Path: way(seq(1, 2), set(3, 4), seq(5)), Hop: 0x0a000001, Med: 0xfffefdfc, Pref: 100,
		AggAS: 65000, AggID: 0xc0000201, Comms: []uint32{0, 0x00010002, math.MaxUint32},
	}
}

// some is those of the eight whose bits are in bits, with what full has of them.
func some(bits int) api.Attrs {
	return holds(bits, bits)
}

// holds has the bits of bits, and what full has of the types whose bits are in fields.
func holds(bits, fields int) api.Attrs {
	all := full()
	a := api.Attrs{Has: bits}
	if fields&origin != 0 {
		a.Origin = all.Origin
	}
	if fields&pathed != 0 {
		a.Path = all.Path
	}
	if fields&hop != 0 {
		a.Hop = all.Hop
	}
	if fields&med != 0 {
		a.Med = all.Med
	}
	if fields&pref != 0 {
		a.Pref = all.Pref
	}
	if fields&aggregator != 0 {
		a.AggAS, a.AggID = all.AggAS, all.AggID
	}
	if fields&comms != 0 {
		a.Comms = all.Comms
	}
	return a
}

// tell is attributes as a text, in which lists that are nil and empty look the same: it owes nothing to what it checks.
func tell(a api.Attrs) string {
	return fmt.Sprintf("%+v", a)
}

// changed is full, changed by change.
func changed(change func(a *api.Attrs)) api.Attrs {
	a := full()
	change(&a)
	return a
}

// goods are attributes that are good, at every bound.
func goods() []api.Attrs {
	all := []api.Attrs{
		changed(func(a *api.Attrs) { a.Origin = 0 }), changed(func(a *api.Attrs) { a.Origin = 2 }),
		changed(func(a *api.Attrs) { a.Path = nil }), changed(func(a *api.Attrs) { a.Path = way(seq(0)) }),
		changed(func(a *api.Attrs) { a.Path = way(set(0, math.MaxUint32)) }),
		changed(func(a *api.Attrs) { a.Path = way(set(1), set(1), seq(2, 2)) }),
		changed(func(a *api.Attrs) { a.Path = long(2000) }), changed(func(a *api.Attrs) { a.Path = long(1999) }),
		changed(func(a *api.Attrs) { a.Path = way(slices.Repeat(way(set(7)), 100)...) }),
		changed(func(a *api.Attrs) {
			a.Path = append(way(slices.Repeat(way(set(count(7, 255)...)), 7)...), set(count(1, 215)...))
		}),
		changed(func(a *api.Attrs) { a.Med, a.Pref, a.AggAS, a.AggID = 0, 0, 0, 0 }),
		changed(func(a *api.Attrs) {
			a.Med, a.Pref, a.AggAS, a.AggID = math.MaxUint32, math.MaxUint32, math.MaxUint32, math.MaxUint32
		}),
		changed(func(a *api.Attrs) { a.Comms = nil }), changed(func(a *api.Attrs) { a.Comms = []uint32{0} }),
		changed(func(a *api.Attrs) { a.Comms = count(9, 255) }), changed(func(a *api.Attrs) { a.Comms = count(9, 254) }),
	}
	for _, n := range []uint32{1, 0x7fffffff, 0x80000000, 0xdfffffff, 0xf0000000, 0xfffffffe} {
		all = append(all, changed(func(a *api.Attrs) { a.Hop = n }))
	}
	for bits := 0; bits <= whole; bits += 2 {
		all = append(all, some(bits))
	}
	return all
}

// bads are attributes that are not good for one reason each.
func bads() []api.Attrs {
	all := []api.Attrs{
		changed(func(a *api.Attrs) { a.Path = long(2001) }), changed(func(a *api.Attrs) { a.Path = long(2005) }),
		changed(func(a *api.Attrs) {
			a.Path = append(way(slices.Repeat(way(set(count(7, 255)...)), 7)...), set(count(1, 216)...))
		}),
		changed(func(a *api.Attrs) { a.Path = slices.Repeat(way(set(7)), 101) }),
		changed(func(a *api.Attrs) { a.Comms = count(9, 256) }), changed(func(a *api.Attrs) { a.Comms = count(9, 300) }),
	}
	for _, n := range []int{math.MinInt, -1, 3, 4, 255, 256, 257, math.MaxInt} {
		all = append(all, changed(func(a *api.Attrs) { a.Origin = n }))
	}
	for _, n := range []uint32{0, 0xe0000000, 0xe0000001, 0xe8000000, 0xeffffffe, 0xefffffff, math.MaxUint32} {
		all = append(all, changed(func(a *api.Attrs) { a.Hop = n }))
	}
	for _, l := range [][]api.Seg{
		way(seq(1), seq(2)), way(seq()), way(set()), way(set(2, 1)), way(set(1, 1)), way(other(0, 1)), way(other(3, 1)), way(other(7)),
		way(seq(count(1, 256)...)), way(set(count(1, 256)...)), way(seq(1), set(2), other(-1, 1)),
	} {
		all = append(all, changed(func(a *api.Attrs) { a.Path = l }))
	}
	for _, l := range [][]uint32{{1, 1}, {2, 1}, {1, 2, 2}, {1, 3, 2}, {math.MaxUint32, 0}, {0, 0}} {
		all = append(all, changed(func(a *api.Attrs) { a.Comms = l }))
	}
	for _, bits := range []int{1, 1 << 9, 1 << 10, 1 << 31, 1 << 32, 1 << 62, math.MinInt} {
		all = append(all, changed(func(a *api.Attrs) { a.Has |= bits }), api.Attrs{Has: bits})
	}
	for kind := 1; kind <= 8; kind++ {
		if kind != 6 {
			all = append(all, holds(whole&^(1<<kind), whole), holds(0, 1<<kind))
		}
	}
	return append(all,
		api.Attrs{AggAS: 1}, api.Attrs{AggID: 1}, changed(func(a *api.Attrs) { a.Has, a.AggAS = whole-aggregator, 0 }), changed(func(a *api.Attrs) { a.Has, a.AggID = whole-aggregator, 0 }),
		api.Attrs{Has: -1}, api.Attrs{Path: way(seq())}, api.Attrs{Origin: -1}, api.Attrs{Has: hop},
	)
}

// P8.1

func TestGood(t *testing.T) {
	for i, a := range goods() {
		if !attr.Good(a) {
			t.Errorf("%d: %s is good", i, tell(a))
		}
	}
	for i, a := range bads() {
		if attr.Good(a) {
			t.Errorf("%d: %s is not good", i, tell(a))
		}
	}
	if !attr.Good(api.Attrs{}) || !attr.Good(api.Attrs{Path: way(), Comms: []uint32{}}) {
		t.Error("nothing is good, be its lists nil or empty")
	}
}

// Everything that can be present against everything that can be set: good is what has no bit too many, nothing set that is not present, and a next hop where one is present.
func TestGoodPresent(t *testing.T) {
	for bits := range 1 << 10 {
		for fields := 0; fields <= whole; fields += 2 {
			if fields&atomic != 0 {
				continue
			}
			want := bits&^whole == 0 && fields&^bits == 0 && bits&hop == fields&hop
			if a := holds(bits, fields); attr.Good(a) != want {
				t.Fatalf("%s: not %v", tell(a), want)
			}
		}
	}
}

func TestHop(t *testing.T) {
	for n, want := range map[uint32]bool{
		0: false, 1: true, 2: true, 0x0a000001: true, 0x7f000001: true, 0x7fffffff: true, 0x80000000: true, 0xc0000201: true, 0xdffffffe: true, 0xdfffffff: true,
		0xe0000000: false, 0xe0000001: false, 0xe7ffffff: false, 0xe8000000: false, 0xeffffffe: false, 0xefffffff: false,
		0xf0000000: true, 0xf0000001: true, 0xfffffffd: true, 0xfffffffe: true, 0xffffffff: false,
	} {
		if attr.Hop(n) != want {
			t.Errorf("%08x: not %v", n, want)
		}
	}
	for top := range uint32(256) {
		if attr.Hop(top<<24|0x123456) != (top < 0xe0 || top > 0xef) {
			t.Errorf("%02x", top)
		}
	}
}

func TestNorm(t *testing.T) {
	a := changed(func(a *api.Attrs) {
		a.Path = way(seq(1), seq(), set(), other(7, 9), seq(2), set(4, 3, 4), seq(count(10, 256)...), seq(5))
		a.Comms = []uint32{9, 0, 9, 5, math.MaxUint32, 0}
	})
	want := changed(func(a *api.Attrs) {
		a.Path = way(seq(1, 2), set(3, 4), seq(count(10, 255)...), seq(265, 5))
		a.Comms = []uint32{0, 5, 9, math.MaxUint32}
	})
	if got := attr.Norm(a); tell(got) != tell(want) {
		t.Error(tell(got))
	}
	// Neither limits nor what is not valid are minded.
	a = changed(func(a *api.Attrs) { a.Origin, a.Hop, a.Path, a.Comms = 7, 0, long(2001), count(0, 300) })
	if got := attr.Norm(a); tell(got) != tell(a) {
		t.Error(tell(got))
	}
	a = changed(func(a *api.Attrs) { a.Origin, a.Hop = math.MinInt, math.MaxUint32 })
	if got := attr.Norm(a); tell(got) != tell(a) {
		t.Error(tell(got))
	}
}

// What is not present is gone, and so are other bits.
func TestNormPresent(t *testing.T) {
	for bits := range 1 << 10 {
		for _, more := range []int{0, math.MinInt, 1 << 40, -1 << 9} {
			if got := attr.Norm(holds(bits|more, whole)); tell(got) != tell(some(bits&whole)) {
				t.Fatalf("%x: %s", bits|more, tell(got))
			}
		}
		if got := attr.Norm(holds(bits, 0)); tell(got) != tell(api.Attrs{Has: bits & whole}) {
			t.Fatalf("%x: %s", bits, tell(got))
		}
	}
	// ORIGIN is what it is, though it be none, where it is present; and nothing where it is not.
	if got := attr.Norm(api.Attrs{Has: origin, Origin: -7}); got.Origin != -7 {
		t.Error(tell(got))
	}
	if got := attr.Norm(api.Attrs{Origin: -7, Path: way(seq(1)), Comms: []uint32{1}}); tell(got) != tell(api.Attrs{}) {
		t.Error(tell(got))
	}
}

// What is good is in normal form, and what is in normal form remains as it is.
func TestNormAgain(t *testing.T) {
	for _, a := range goods() {
		if got := attr.Norm(a); tell(got) != tell(a) {
			t.Errorf("%s: %s", tell(a), tell(got))
		}
	}
	for _, a := range bads() {
		once := attr.Norm(a)
		if got := attr.Norm(once); tell(got) != tell(once) {
			t.Errorf("%s: %s", tell(once), tell(got))
		}
	}
}

func TestSame(t *testing.T) {
	variants := []api.Attrs{full(), {}, {Path: way(seq())}, {Path: way(set())}, {Path: way(seq(), seq())}}
	for _, change := range []func(a *api.Attrs){
		func(a *api.Attrs) { a.Has-- }, func(a *api.Attrs) { a.Has |= 1 << 9 }, func(a *api.Attrs) { a.Has &^= atomic }, func(a *api.Attrs) { a.Has = -a.Has },
		func(a *api.Attrs) { a.Origin = 0 }, func(a *api.Attrs) { a.Origin = -1 }, func(a *api.Attrs) { a.Origin = 257 }, func(a *api.Attrs) { a.Origin = 1<<32 + 1 },
		func(a *api.Attrs) { a.Hop++ }, func(a *api.Attrs) { a.Med++ }, func(a *api.Attrs) { a.Pref++ }, func(a *api.Attrs) { a.AggAS++ }, func(a *api.Attrs) { a.AggID++ },
		func(a *api.Attrs) { a.Hop ^= 1 << 31 }, func(a *api.Attrs) { a.Med ^= 1 << 31 }, func(a *api.Attrs) { a.Pref ^= 1 << 31 }, func(a *api.Attrs) { a.AggAS ^= 1 << 31 }, func(a *api.Attrs) { a.AggID ^= 1 << 31 },
		func(a *api.Attrs) { a.AggAS, a.AggID = a.AggID, a.AggAS }, func(a *api.Attrs) { a.Med, a.Pref = a.Pref, a.Med },
		func(a *api.Attrs) { a.Path = nil }, func(a *api.Attrs) { a.Path = a.Path[:2] }, func(a *api.Attrs) { a.Path = a.Path[1:] }, func(a *api.Attrs) { a.Path[0].AS[1] = 7 },
		func(a *api.Attrs) { a.Path[2].AS[0] = 7 }, func(a *api.Attrs) { a.Path[1].Kind = 2 }, func(a *api.Attrs) { a.Path[1].Kind = 7 }, func(a *api.Attrs) { a.Path[1].AS = []uint32{4, 3} },
		func(a *api.Attrs) { a.Path[0].AS = []uint32{1} }, func(a *api.Attrs) { a.Path = way(seq(1), seq(2), set(3, 4), seq(5)) }, func(a *api.Attrs) { a.Path = append(a.Path, seq()) },
		func(a *api.Attrs) { a.Comms = nil }, func(a *api.Attrs) { a.Comms = a.Comms[:2] }, func(a *api.Attrs) { a.Comms = a.Comms[1:] }, func(a *api.Attrs) { a.Comms[1]++ },
		func(a *api.Attrs) { a.Comms[2]-- }, func(a *api.Attrs) { a.Comms = []uint32{a.Comms[1], a.Comms[0], a.Comms[2]} }, func(a *api.Attrs) { a.Comms = append(a.Comms, a.Comms[2]) },
	} {
		variants = append(variants, changed(change))
	}
	for i, a := range variants {
		for j, b := range variants {
			if attr.Same(a, b) != (i == j) {
				t.Errorf("%s, %s: not %v", tell(a), tell(b), i == j)
			}
		}
	}
	if !attr.Same(full(), full()) || !attr.Same(api.Attrs{}, api.Attrs{Path: way(), Comms: []uint32{}}) || !attr.Same(api.Attrs{Path: way(seq())}, api.Attrs{Path: way(seq([]uint32{}...))}) {
		t.Error("lists of their own, nil or empty, are the same")
	}
}
