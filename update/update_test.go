package update_test

import (
	"fmt"
	"math"
	"slices"
	"testing"

	"confluence/api"
	"confluence/attr"
	"confluence/update"
)

// The bits of Has, one a type.
const (
	origin     = 1 << 1
	pathed     = 1 << 2
	hop        = 1 << 3
	med        = 1 << 4
	pref       = 1 << 5
	atomic     = 1 << 6
	aggregator = 1 << 7
	comms      = 1 << 8
	least      = origin + pathed + hop
	whole      = 0x1fe
)

// at is a prefix, of whatever length.
func at(addr uint32, n int) api.Prefix { return api.Prefix{Addr: addr, Len: n} }

// five are prefixes with each number of bytes that there is: 2, 1, 5, 4 and 3.
func five() []api.Prefix {
	return []api.Prefix{at(0x0a000000, 8), {}, at(0xffffffff, 32), at(0xc0000200, 24), at(0x80010000, 16)}
}

// bad are prefixes that are not good.
func bad() []api.Prefix {
	return []api.Prefix{at(0, 33), at(0, -1), at(1, 31), at(0x0a000001, 8), at(1, 0), at(1<<31, 0), at(0, math.MinInt), at(0, math.MaxInt), at(0, 256+8)}
}

// many are n prefixes of four bytes each, all of them different.
func many(n int) []api.Prefix {
	var l []api.Prefix
	for i := range n {
		l = append(l, at(0x0a000000+uint32(i)<<8, 24))
	}
	return l
}

// filler is good prefixes that have n bytes together.
func filler(n int) []api.Prefix {
	l := many(n / 4)
	return append(l, []([]api.Prefix){{}, {{}}, {at(0x0b000000, 8)}, {at(0x0b0c0000, 16)}}[n%4]...)
}

// count is the numbers from from on, n of them.
func count(from uint32, n int) []uint32 {
	var l []uint32
	for i := range n {
		l = append(l, from+uint32(i))
	}
	return l
}

// way is a path of sequences that has n numbers in all, cut as it must be.
func way(n int) []api.Seg {
	var l []api.Seg
	for part := range slices.Chunk(count(1, n), 255) {
		l = append(l, api.Seg{Kind: api.Sequence, AS: part})
	}
	return l
}

// full has all eight types, each with something in it.
func full() api.Attrs {
	return api.Attrs{
		Has: whole, Origin: 1, Path: append(way(2), api.Seg{Kind: api.Set, AS: []uint32{3, 4}}), Hop: 0x0a000001, Med: 0xfffefdfc, Pref: 100,
		AggAS: 65000, AggID: 0xc0000201, Comms: []uint32{0, 0x00010002, math.MaxUint32},
	}
}

// some is what full has of the types whose bits are in bits.
func some(bits int) api.Attrs {
	a := full()
	a.Has = bits
	return attr.Norm(a)
}

// three is attributes with the types that there must be.
func three() api.Attrs {
	return some(least)
}

// changed is full, changed by change.
func changed(change func(a *api.Attrs)) api.Attrs {
	a := full()
	change(&a)
	return a
}

// wrong are attributes that are not good for one reason each.
func wrong() []api.Attrs {
	all := []api.Attrs{
		changed(func(a *api.Attrs) { a.Has |= 1 }), changed(func(a *api.Attrs) { a.Has |= 1 << 9 }), changed(func(a *api.Attrs) { a.Has = -1 }),
		changed(func(a *api.Attrs) { a.Origin = 3 }), changed(func(a *api.Attrs) { a.Origin = -1 }),
		changed(func(a *api.Attrs) { a.Hop = 0 }), changed(func(a *api.Attrs) { a.Hop = 0xe0000001 }), changed(func(a *api.Attrs) { a.Hop = math.MaxUint32 }),
		changed(func(a *api.Attrs) { a.Path = way(2001) }), changed(func(a *api.Attrs) { a.Path = append(way(1), way(1)...) }),
		changed(func(a *api.Attrs) { a.Path[0].Kind = 3 }), changed(func(a *api.Attrs) { a.Path[0].AS = nil }), changed(func(a *api.Attrs) { a.Path[1].AS = []uint32{4, 3} }),
		changed(func(a *api.Attrs) { a.Comms = []uint32{2, 1} }), changed(func(a *api.Attrs) { a.Comms = []uint32{1, 1} }), changed(func(a *api.Attrs) { a.Comms = count(1, 256) }),
	}
	// What is not present must be zero.
	for kind := 1; kind <= 8; kind++ {
		if kind != api.TAtomic {
			all = append(all, changed(func(a *api.Attrs) { a.Has -= 1 << kind }))
		}
	}
	return all
}

// lacking are good attributes that lack one of the types that there must be, or more.
func lacking() []api.Attrs {
	var all []api.Attrs
	for bits := 0; bits <= whole; bits += 2 {
		if bits&least != least {
			all = append(all, some(bits))
		}
	}
	return all
}

// fields are attributes that are zero but for one thing.
func fields() []api.Attrs {
	return []api.Attrs{
		{Has: 1}, {Has: origin}, {Has: pathed}, {Has: hop}, {Has: med}, {Has: pref}, {Has: atomic}, {Has: aggregator}, {Has: comms}, {Has: 1 << 9}, {Has: -1},
		{Origin: 1}, {Origin: -1}, {Path: way(1)}, {Path: []api.Seg{{}}}, {Hop: 1}, {Med: 1}, {Pref: 1}, {AggAS: 1}, {AggID: 1}, {Comms: []uint32{0}},
	}
}

// tell is an Update as a text, in which lists that are nil and empty look the same: it owes nothing to what it checks.
func tell(u api.Update) string {
	return fmt.Sprintf("%+v", u)
}

// goods are Updates that are good: of nothing, of Gone alone, of Here alone, of both, with attributes of every sort.
func goods() []api.Update {
	l := five()
	all := []api.Update{
		{}, {Gone: []api.Prefix{}, Here: []api.Prefix{}}, {Attrs: api.Attrs{Path: []api.Seg{}, Comms: []uint32{}}},
		{Gone: l}, {Gone: l[1:2]}, {Gone: many(1018)}, {Gone: []api.Prefix{l[2], l[0], l[2], l[2]}, Here: []api.Prefix{}},
		{Attrs: three(), Here: l}, {Attrs: three(), Here: l[1:2]}, {Attrs: three(), Here: many(1000)}, {Attrs: three(), Here: []api.Prefix{l[2], l[0], l[2], l[2]}},
		{Gone: l, Attrs: three(), Here: l}, {Gone: l[:1], Attrs: full(), Here: l[4:]}, {Gone: many(300), Attrs: full(), Here: many(300)},
		{Attrs: changed(func(a *api.Attrs) { a.Path, a.Comms = way(600), count(1, 255) }), Here: l},
		{Attrs: changed(func(a *api.Attrs) { a.Path, a.Comms = nil, nil }), Here: l},
	}
	for _, p := range l {
		all = append(all, api.Update{Gone: []api.Prefix{p}}, api.Update{Attrs: full(), Here: []api.Prefix{p}})
	}
	for bits := least; bits <= whole; bits += 2 {
		if bits&least == least {
			all = append(all, api.Update{Attrs: some(bits), Here: l}, api.Update{Gone: l, Attrs: some(bits), Here: l[:1]})
		}
	}
	return all
}

// bads are Updates that are not good for one reason each.
func bads() []api.Update {
	l := five()
	var all []api.Update
	for _, p := range bad() {
		for _, x := range [][]api.Prefix{{p}, {p, l[0]}, {l[0], p}, {l[0], p, l[1]}, append(five(), p)} {
			all = append(all, api.Update{Gone: x}, api.Update{Gone: x, Attrs: full(), Here: l}, api.Update{Attrs: full(), Here: x}, api.Update{Gone: l, Attrs: three(), Here: x})
		}
	}
	for _, a := range append(wrong(), lacking()...) {
		all = append(all, api.Update{Attrs: a, Here: l}, api.Update{Gone: l, Attrs: a, Here: l[:1]})
	}
	for _, a := range slices.Concat(fields(), wrong(), []api.Attrs{three(), full()}) {
		all = append(all, api.Update{Attrs: a}, api.Update{Gone: l, Attrs: a, Here: []api.Prefix{}})
	}
	return all
}

// P10.1

func TestGood(t *testing.T) {
	for _, u := range goods() {
		if !update.Good(u) {
			t.Errorf("%s is not good", tell(u))
		}
	}
	for _, u := range bads() {
		if update.Good(u) {
			t.Errorf("%s is good", tell(u))
		}
	}
}

// Of what is in an Update no number is too great, though a message has no room for it.
func TestGoodMany(t *testing.T) {
	if !update.Good(api.Update{Gone: many(70000)}) || !update.Good(api.Update{Gone: many(9), Attrs: three(), Here: many(70000)}) {
		t.Error("many prefixes are not good")
	}
	if !update.Good(api.Update{Attrs: changed(func(a *api.Attrs) { a.Path = way(2000) }), Here: five()}) {
		t.Error("many numbers are not good")
	}
	if update.Good(api.Update{Gone: append(many(70000), at(0, 33))}) || update.Good(api.Update{Attrs: three(), Here: append(many(70000), at(0, 33))}) {
		t.Error("the last one counts for nothing")
	}
}

// sized are attributes by how many bytes they have, about as many as leave nothing.
func sized() map[int]api.Attrs {
	all := map[int]api.Attrs{}
	for numbers := 1000; numbers <= 1020; numbers++ {
		for _, bits := range []int{least, least + atomic, least + med, least + med + atomic, whole} {
			for set := range 2 {
				a := some(bits)
				a.Path = way(numbers)
				if set > 0 {
					a.Path = append(a.Path, api.Seg{Kind: api.Set, AS: []uint32{5}})
				}
				all[len(plainAttrs(a))] = a
			}
		}
	}
	return all
}

func TestRoom(t *testing.T) {
	for n, a := range sized() {
		if got := update.Room(a); got != max(4073-n, 0) {
			t.Errorf("%d bytes leave %d", n, got)
		}
	}
	for bits := 0; bits <= whole; bits += 2 {
		if a := some(bits); update.Room(a) != 4073-len(plainAttrs(a)) {
			t.Errorf("%+v leaves %d", a, update.Room(a))
		}
	}
	for n, want := range map[int]int{0: 4073, 4071: 2, 4072: 1, 4073: 0, 4074: 0, 4075: 0} {
		a, ok := sized()[n]
		if n > 0 && !ok || update.Room(a) != want {
			t.Errorf("%d bytes leave %d, not %d: %v", n, update.Room(a), want, ok)
		}
	}
	if n := update.Room(three()); n != 4073-11-23 {
		t.Errorf("%+v leaves %d", three(), n)
	}
	if n := update.Room(api.Attrs{Path: []api.Seg{}, Comms: []uint32{}}); n != 4073 {
		t.Errorf("empty lists leave %d", n)
	}
	if n := update.Room(changed(func(a *api.Attrs) { a.Path = way(2000) })); n != 0 {
		t.Errorf("8000 bytes leave %d", n)
	}
}

// Attributes that are not good leave nothing, though such as lack a type leave what they do.
func TestRoomRefuses(t *testing.T) {
	for _, a := range wrong() {
		if n := update.Room(a); n != 0 {
			t.Errorf("%+v leaves %d", a, n)
		}
	}
	for _, a := range fields()[11:] {
		if n := update.Room(a); n != 0 {
			t.Errorf("%+v leaves %d", a, n)
		}
	}
}

// Here may have just the bytes that Room tells.
func TestRoomFits(t *testing.T) {
	for _, a := range append([]api.Attrs{three(), full()}, sized()[4050], sized()[4066], sized()[4072]) {
		room := update.Room(a)
		fits := api.Update{Attrs: a, Here: filler(room)}
		if b, e := update.Encode(fits); room == 0 || e != api.OK || len(b) != 4077 {
			t.Errorf("%d bytes in a room of %d: %d, %v", room, room, len(b), e)
		}
		over := api.Update{Attrs: a, Here: filler(room + 1)}
		if b, e := update.Encode(over); e != api.ErrLong || b != nil {
			t.Errorf("%d bytes in a room of %d: %d, %v", room+1, room, len(b), e)
		}
	}
}

// P10.2

// unlike are Updates of which no two are the same, most by one thing alone.
func unlike() []api.Update {
	l := five()
	with := func(change func(a *api.Attrs)) api.Update {
		return api.Update{Gone: l[:2], Attrs: changed(change), Here: l[2:4]}
	}
	return []api.Update{
		{}, {Gone: l[:2], Attrs: full(), Here: l[2:4]},
		{Gone: nil, Attrs: full(), Here: l[2:4]}, {Gone: l[:1], Attrs: full(), Here: l[2:4]}, {Gone: l[1:2], Attrs: full(), Here: l[2:4]}, {Gone: l[:3], Attrs: full(), Here: l[2:4]},
		{Gone: []api.Prefix{l[1], l[0]}, Attrs: full(), Here: l[2:4]}, {Gone: []api.Prefix{l[0], l[0]}, Attrs: full(), Here: l[2:4]},
		{Gone: []api.Prefix{at(0x0a000000, 9), l[1]}, Attrs: full(), Here: l[2:4]}, {Gone: []api.Prefix{at(0x0b000000, 8), l[1]}, Attrs: full(), Here: l[2:4]},
		{Gone: l[:2], Attrs: full()}, {Gone: l[:2], Attrs: full(), Here: l[2:3]}, {Gone: l[:2], Attrs: full(), Here: l[3:4]}, {Gone: l[:2], Attrs: full(), Here: l[2:5]},
		{Gone: l[:2], Attrs: full(), Here: []api.Prefix{l[3], l[2]}}, {Gone: l[:2], Attrs: full(), Here: []api.Prefix{l[2], l[2]}},
		{Gone: l[:2], Attrs: full(), Here: []api.Prefix{at(0xffffffff, 31), l[3]}}, {Gone: l[:2], Attrs: full(), Here: []api.Prefix{at(0xfffffffe, 32), l[3]}},
		{Gone: l[2:4], Attrs: full(), Here: l[:2]}, {Gone: l[:2], Here: l[2:4]}, {Gone: l[:4], Attrs: full()}, {Attrs: full(), Here: l[:4]},
		with(func(a *api.Attrs) { a.Has++ }), with(func(a *api.Attrs) { a.Origin++ }), with(func(a *api.Attrs) { a.Hop++ }), with(func(a *api.Attrs) { a.Med++ }),
		with(func(a *api.Attrs) { a.Pref++ }), with(func(a *api.Attrs) { a.AggAS++ }), with(func(a *api.Attrs) { a.AggID++ }),
		with(func(a *api.Attrs) { a.Path = a.Path[:1] }), with(func(a *api.Attrs) { slices.Reverse(a.Path) }), with(func(a *api.Attrs) { a.Path[1].AS[1]++ }),
		with(func(a *api.Attrs) { a.Path[0].Kind = 1 }), with(func(a *api.Attrs) { slices.Reverse(a.Path[1].AS) }),
		with(func(a *api.Attrs) { a.Comms = a.Comms[1:] }), with(func(a *api.Attrs) { a.Comms[1]++ }), with(func(a *api.Attrs) { slices.Reverse(a.Comms) }),
	}
}

func TestSame(t *testing.T) {
	one, two := unlike(), unlike()
	for i, a := range one {
		for j, b := range two {
			if update.Same(a, b) != (i == j) {
				t.Errorf("%s, %s: %v", tell(a), tell(b), i != j)
			}
		}
	}
	for _, u := range slices.Concat(goods(), bads()) {
		if !update.Same(u, copied(u)) {
			t.Errorf("%s is not the same as itself", tell(u))
		}
	}
}

// Lists that are nil and empty are the same, in every place of an Update.
func TestSameEmpty(t *testing.T) {
	for _, u := range []api.Update{
		{Gone: []api.Prefix{}}, {Here: []api.Prefix{}}, {Attrs: api.Attrs{Path: []api.Seg{}}}, {Attrs: api.Attrs{Comms: []uint32{}}},
	} {
		if !update.Same(u, api.Update{}) || !update.Same(api.Update{}, u) || !update.Same(u, u) {
			t.Errorf("%s is not as one of nothing", tell(u))
		}
	}
	a, b := api.Update{Attrs: api.Attrs{Path: []api.Seg{{Kind: 1}}}}, api.Update{Attrs: api.Attrs{Path: []api.Seg{{Kind: 1, AS: []uint32{}}}}}
	if !update.Same(a, b) || !update.Same(b, a) {
		t.Error("segments of nothing differ")
	}
}
