package open_test

import (
	"bytes"
	"math"
	"testing"

	"confluence/api"
	"confluence/open"
)

// numbers are numbers of autonomous systems, and whether they are good in two bytes and in four.
var numbers = []struct {
	as        uint32
	two, four bool
}{
	{0, false, false}, {1, true, true}, {2, true, true}, {255, true, true}, {256, true, true},
	{23455, true, true}, {23456, true, true}, {23457, true, true}, {65534, true, true}, {65535, true, true},
	{65536, false, true}, {65537, false, true}, {65536 + 23456, false, true}, {1 << 24, false, true},
	{math.MaxInt32, false, true}, {1 << 31, false, true}, {math.MaxUint32 - 1, false, true}, {math.MaxUint32, false, true},
}

// ids are ids of neighbors: 0 alone is not good.
var ids = []uint32{0, 1, 255, 256, 0x0a000001, math.MaxInt32, 1 << 31, math.MaxUint32}

// times are times of holding, and whether they are good.
var times = []struct {
	hold int
	good bool
}{
	{math.MinInt, false}, {math.MinInt32, false}, {-65536, false}, {-65533, false}, {-3, false}, {-2, false}, {-1, false},
	{0, true}, {1, false}, {2, false}, {3, true}, {4, true}, {90, true}, {180, true}, {255, true}, {256, true}, {257, true},
	{65534, true}, {65535, true}, {65536, false}, {65537, false}, {65539, false}, {1 << 20, false}, {math.MaxInt32, false}, {math.MaxInt, false},
}

// every shows all Opens of these numbers, ids and times, and whether they are good.
func every(show func(o api.Open, good bool)) {
	for _, x := range numbers {
		for _, id := range ids {
			for _, y := range times {
				show(api.Open{AS: x.as, Hold: y.hold, ID: id}, x.two && id != 0 && y.good)
				show(api.Open{AS: x.as, Hold: y.hold, ID: id, Four: true}, x.four && id != 0 && y.good)
			}
		}
	}
}

// four is the bytes of a number.
func four(n uint32) []byte {
	return []byte{byte(n >> 24), byte(n >> 16), byte(n >> 8), byte(n)}
}

// same tells whether a notice is the one with this code, this subcode and these bytes.
func same(n api.Notice, code, sub int, data ...byte) bool {
	return n.Code == code && n.Sub == sub && bytes.Equal(n.Data, data)
}

// P9.1

func TestGood(t *testing.T) {
	every(func(o api.Open, good bool) {
		if open.Good(o) != good {
			t.Errorf("%+v: %v", o, !good)
		}
	})
	if open.Good(api.Open{}) || open.Good(api.Open{Four: true}) {
		t.Error("the zero Open")
	}
}

// P9.3

// judges reports an Open that is not judged as wanted; without a subcode nothing may be wrong.
func judges(t *testing.T, o api.Open, as, own uint32, sub int, data ...byte) {
	t.Helper()
	code := 2
	if sub == 0 {
		code = 0
	}
	if n := open.Judge(o, as, own); !same(n, code, sub, data...) {
		t.Errorf("%+v for %d, %d: %v, not %d % x", o, as, own, n, sub, data)
	}
}

func TestJudge(t *testing.T) {
	o := api.Open{AS: 65000, Hold: 90, ID: 7, Four: true}
	judges(t, o, 65000, 8, 0)
	// Each of the errors alone.
	judges(t, o, 65001, 8, 2)
	judges(t, o, 65000, 7, 3)
	o.Four = false
	judges(t, o, 65000, 8, 7, 0x41, 4, 0, 0, 0xfd, 0xe8)
	// Two of them, and all three.
	judges(t, o, 65001, 8, 2)
	judges(t, o, 65000, 7, 3)
	judges(t, o, 65001, 7, 2)
	o.Four = true
	judges(t, o, 65001, 7, 2)
	// The number is told in four bytes, however great it is.
	judges(t, api.Open{AS: 0x01020304, ID: 1}, 0x01020304, 2, 7, 0x41, 4, 1, 2, 3, 4)
	judges(t, api.Open{AS: math.MaxUint32, ID: 1}, math.MaxUint32, 2, 7, 0x41, 4, 0xff, 0xff, 0xff, 0xff)
	judges(t, api.Open{AS: 1, ID: 1}, 1, 2, 7, 0x41, 4, 0, 0, 0, 1)
	judges(t, api.Open{AS: 23456, ID: 1}, 23456, 2, 7, 0x41, 4, 0, 0, 0x5b, 0xa0)
	// Numbers and ids count in all their bits, and the one does not stand for the other.
	judges(t, api.Open{AS: 65536 + 9, ID: 1, Four: true}, 9, 2, 2)
	judges(t, api.Open{AS: 23456, ID: 1, Four: true}, 65536, 2, 2)
	judges(t, api.Open{AS: 9, ID: 1<<31 + 1, Four: true}, 9, 1, 0)
	judges(t, api.Open{AS: 9, ID: 8, Four: true}, 9, 9, 0)
	judges(t, api.Open{AS: 9, ID: 8, Four: true}, 8, 9, 2)
	judges(t, api.Open{}, 0, 0, 3)
	judges(t, api.Open{}, 0, 1, 7, 0x41, 4, 0, 0, 0, 0)
}

// Every Open, good or not, for each number and each id: the time does not matter.
func TestJudgeEvery(t *testing.T) {
	every(func(o api.Open, _ bool) {
		for _, x := range numbers {
			for _, own := range ids {
				if o.AS != x.as {
					judges(t, o, x.as, own, 2)
				} else if o.ID == own {
					judges(t, o, x.as, own, 3)
				} else if !o.Four {
					judges(t, o, x.as, own, 7, append([]byte{0x41, 4}, four(x.as)...)...)
				} else {
					judges(t, o, x.as, own, 0)
				}
			}
		}
	})
}

func TestHold(t *testing.T) {
	for _, x := range []struct{ a, b, want int }{
		{90, 180, 90}, {90, 90, 90}, {90, 91, 90}, {90, 89, 89}, {3, 65535, 3}, {65535, 65535, 65535}, {1, 2, 1}, {2, 2, 2}, {1, 1, 1},
		{0, 0, 0}, {0, 90, 0}, {0, 1, 0}, {-1, 90, 0}, {-1, -1, 0}, {-90, -180, 0}, {-1, 0, 0}, {-90, 90, 0}, {math.MinInt, math.MaxInt, 0},
		{math.MinInt, math.MinInt, 0}, {math.MinInt, 0, 0}, {math.MinInt, -1, 0}, {math.MaxInt, math.MaxInt, math.MaxInt}, {math.MaxInt, 1, 1}, {math.MaxInt, 0, 0}, {100000, 70000, 70000},
	} {
		if n := open.Hold(x.a, x.b); n != x.want {
			t.Errorf("%d, %d: %d, not %d", x.a, x.b, n, x.want)
		}
		if n := open.Hold(x.b, x.a); n != x.want {
			t.Errorf("%d, %d: %d, not %d", x.b, x.a, n, x.want)
		}
	}
	for a := -20; a < 200; a++ {
		for b := -20; b < 200; b++ {
			want := a
			if b < a {
				want = b
			}
			if a <= 0 || b <= 0 {
				want = 0
			}
			if n := open.Hold(a, b); n != want {
				t.Errorf("%d, %d: %d, not %d", a, b, n, want)
			}
		}
	}
}

func TestKeep(t *testing.T) {
	for hold, want := range map[int]int{
		90: 30, 0: 0, 1: 0, 2: 0, 3: 1, 4: 1, 5: 1, 6: 2, 7: 2, 8: 2, 9: 3, 89: 29, 91: 30, 92: 30, 93: 31, 65534: 21844, 65535: 21845, 65536: 21845,
		-1: 0, -2: 0, -3: 0, -4: 0, -90: 0, -65535: 0, math.MinInt: 0, math.MaxInt: math.MaxInt / 3,
	} {
		if n := open.Keep(hold); n != want {
			t.Errorf("%d: %d, not %d", hold, n, want)
		}
	}
	// Three times what is answered fits into the time, and once more does not.
	for hold := range 70000 {
		if n := open.Keep(hold); 3*n > hold || 3*n+3 <= hold {
			t.Errorf("%d: %d", hold, n)
		}
	}
}
