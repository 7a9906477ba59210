package comm_test

import (
	"math"
	"slices"
	"testing"

	"confluence/comm"
)

// The well-known communities, written out so that they owe nothing to what they check.
const (
	noExport    = 0xffffff01
	noAdvertise = 0xffffff02
	noSubconfed = 0xffffff03
)

// halves are numbers of 16 bits at both ends, at the steps from one count of digits to the next, and beside the lower halves of what is well-known.
var halves = []uint16{
	0, 1, 2, 9, 10, 11, 99, 100, 255, 256, 999, 1000, 6553, 6554, 9999, 10000, 32767, 32768, 65000,
	0xff00, 0xff01, 0xff02, 0xff03, 0xff04, 65534, 65535,
}

// near are communities that are not well-known, but look like it: neighbours, and those that have one half of it.
var near = []uint32{
	0xffffff00, 0xffffff04, 0xffff0001, 0xffff0002, 0xffff0003, 0xfffeff01, 0x0000ff01, 0x0000ff02, 0x0000ff03, 0xff01ffff, 0xff02ffff, 0xff03ffff,
	0x7fffff01, 0xffff7f01, 0xffffff11, 0xffffff81, 0xffffff05, 0xffffff07, math.MaxUint32,
}

// lists is every list of at most most communities of from.
func lists(most int, from ...uint32) [][]uint32 {
	all := [][]uint32{nil}
	for begin := 0; most > 0; most-- {
		end := len(all)
		for _, l := range all[begin:end] {
			for _, c := range from {
				all = append(all, append(slices.Clone(l), c))
			}
		}
		begin = end
	}
	return all
}

// among goes through a list one by one, so that it owes nothing to what it checks.
func among(l []uint32, c uint32) bool {
	for _, x := range l {
		if x == c {
			return true
		}
	}
	return false
}

// P3.1

func TestMakeParts(t *testing.T) {
	for _, x := range []struct {
		as, n uint16
		want  uint32
	}{
		{0, 0, 0}, {0, 1, 1}, {1, 0, 65536}, {0, 65535, 65535}, {65535, 0, 0xffff0000}, {65535, 65535, math.MaxUint32},
		{65000, 100, 0xfde80064}, {0x1234, 0xabcd, 0x1234abcd}, {0x8000, 0x8000, 0x80008000},
		{65535, 65281, noExport}, {65535, 65282, noAdvertise}, {65535, 65283, noSubconfed},
	} {
		if c := comm.Make(x.as, x.n); c != x.want {
			t.Errorf("Make(%d, %d) = %08x", x.as, x.n, c)
		}
		if as, n := comm.Parts(x.want); as != x.as || n != x.n {
			t.Errorf("Parts(%08x) = %d, %d", x.want, as, n)
		}
	}
	for _, as := range halves {
		for _, n := range halves {
			c := comm.Make(as, n)
			if uint64(c) != uint64(as)*65536+uint64(n) {
				t.Errorf("Make(%d, %d) = %08x", as, n, c)
			}
			if x, y := comm.Parts(c); x != as || y != n {
				t.Errorf("Parts(%08x) = %d, %d", c, x, y)
			}
		}
	}
	// Each bit on its own stays where it is.
	for i := range 16 {
		if comm.Make(0, 1<<i) != 1<<i || comm.Make(1<<i, 0) != 1<<(i+16) {
			t.Error(i)
		}
	}
}

func TestKnown(t *testing.T) {
	for _, c := range []uint32{noExport, noAdvertise, noSubconfed} {
		if !comm.Known(c) {
			t.Errorf("%08x", c)
		}
	}
	for _, c := range append([]uint32{0, 1, 2, 3, 65535, 0xfde80064, 1 << 31, 0xffffff}, near...) {
		if comm.Known(c) {
			t.Errorf("%08x", c)
		}
	}
	// All lower halves of the greatest upper one; and all upper halves of those lower ones.
	for i := range 65536 {
		c := uint32(0xffff0000 + i)
		if comm.Known(c) != (c == noExport || c == noAdvertise || c == noSubconfed) {
			t.Errorf("%08x", c)
		}
		for n := uint32(0xff01); n <= 0xff03; n++ {
			if comm.Known(uint32(i)<<16|n) != (i == 65535) {
				t.Errorf("%d:%d", i, n)
			}
		}
	}
}

func TestKeeps(t *testing.T) {
	for _, x := range []struct {
		l                 []uint32
		export, advertise bool
	}{
		{nil, false, false}, {[]uint32{}, false, false},
		{[]uint32{5, noSubconfed}, true, false}, {[]uint32{noSubconfed, 5}, true, false},
		{[]uint32{noExport}, true, false}, {[]uint32{noAdvertise}, false, true}, {[]uint32{noSubconfed}, true, false},
		{[]uint32{noExport, noAdvertise}, true, true}, {[]uint32{noAdvertise, noSubconfed}, true, true}, {[]uint32{noExport, noSubconfed}, true, false},
		{[]uint32{noExport, noAdvertise, noSubconfed}, true, true},
		{[]uint32{0}, false, false}, {[]uint32{5, 0xfde80064, math.MaxUint32}, false, false},
		{near, false, false},
		// Lists that are no sets: falling, and with one community twice.
		{[]uint32{noSubconfed, noAdvertise, noExport}, true, true}, {[]uint32{math.MaxUint32, noAdvertise, 0}, false, true},
		{[]uint32{math.MaxUint32, 9, noExport, 1}, true, false}, {[]uint32{noExport, 0, 0, 0, 0, 0, 0}, true, false},
		{[]uint32{noAdvertise, noAdvertise}, false, true}, {[]uint32{0, 0, 0, 0, 0, 0, noSubconfed}, true, false},
	} {
		if export, advertise := comm.Keeps(x.l); export != x.export || advertise != x.advertise {
			t.Errorf("%08x: %v %v", x.l, export, advertise)
		}
	}
}

// Every short list, in every order and with repetitions.
func TestKeepsAll(t *testing.T) {
	for _, l := range lists(4, 0, 5, 0xffffff00, noExport, noAdvertise, noSubconfed, 0xffffff04, math.MaxUint32) {
		export, advertise := comm.Keeps(l)
		if export != (among(l, noExport) || among(l, noSubconfed)) || advertise != among(l, noAdvertise) {
			t.Errorf("%08x: %v %v", l, export, advertise)
		}
	}
}

// At every place of a long list, rising or falling, a well-known community is found.
func TestKeepsLong(t *testing.T) {
	var rising, falling []uint32
	for i := range uint32(300) {
		rising = append(rising, i*14316557)
		falling = append(falling, math.MaxUint32-i*14316557)
	}
	for _, l := range [][]uint32{rising, falling} {
		if export, advertise := comm.Keeps(l); export || advertise {
			t.Error("none is there")
		}
		for i := range l {
			for _, c := range []uint32{noExport, noAdvertise, noSubconfed} {
				with := slices.Insert(slices.Clone(l), i, c)
				if export, advertise := comm.Keeps(with); export != (c != noAdvertise) || advertise != (c == noAdvertise) {
					t.Errorf("%08x at %d: %v %v", c, i, export, advertise)
				}
			}
		}
	}
}
