package notice_test

import (
	"bytes"
	"math"
	"testing"

	"confluence/api"
	"confluence/notice"
)

// number is a number, and whether a field may have it.
type number struct {
	n  int
	ok bool
}

// codes are Codes that may be, and others: those that one byte does not tell, though its lowest bits are those of one that may be, are among them.
var codes = []number{
	{1, true}, {2, true}, {3, true}, {6, true}, {7, true}, {127, true}, {128, true}, {254, true}, {255, true},
	{0, false}, {256, false}, {257, false}, {262, false}, {511, false}, {-1, false}, {-6, false}, {-250, false}, {-255, false}, {-256, false},
	{1<<16 + 6, false}, {1<<32 + 6, false}, {math.MaxInt32, false}, {math.MinInt32, false}, {math.MaxInt, false}, {math.MinInt, false},
}

// subs are Subs that may be, and others.
var subs = []number{
	{0, true}, {1, true}, {2, true}, {11, true}, {127, true}, {128, true}, {254, true}, {255, true},
	{256, false}, {257, false}, {511, false}, {-1, false}, {-2, false}, {-255, false}, {-256, false},
	{1 << 16, false}, {1 << 32, false}, {1<<32 + 2, false}, {math.MaxInt32, false}, {math.MinInt32, false}, {math.MaxInt, false}, {math.MinInt, false},
}

// sizes are numbers of bytes that Data may have, and others.
var sizes = []number{
	{0, true}, {1, true}, {2, true}, {3, true}, {255, true}, {256, true}, {257, true}, {4074, true}, {4075, true},
	{4076, false}, {4077, false}, {4096, false}, {65535, false}, {65536, false}, {65537, false},
}

// long is n bytes that are not all alike.
func long(n int) []byte {
	b := make([]byte, n)
	for i := range b {
		b[i] = byte(i*7 + i/256)
	}
	return b
}

// every calls with notices of each kind: every Code and every Sub with Data of every size.
func every(call func(n api.Notice, good bool)) {
	for _, size := range sizes {
		data := long(size.n)
		for _, code := range codes {
			for _, sub := range subs {
				call(api.Notice{Code: code.n, Sub: sub.n, Data: data}, code.ok && sub.ok && size.ok)
			}
		}
	}
	for _, data := range [][]byte{nil, {}, {0}, {0xff}, {0, 0}, []byte("bye")} {
		call(api.Notice{Code: 6, Sub: 2, Data: data}, true)
	}
}

// P11.1
func TestGood(t *testing.T) {
	every(func(n api.Notice, good bool) {
		if notice.Good(n) != good {
			t.Errorf("%d, %d, %d bytes: not %v", n.Code, n.Sub, len(n.Data), good)
		}
	})
	if notice.Good(api.Notice{}) {
		t.Error("the zero notice")
	}
}

// P11.1: each Code and each Sub that may be, and those next to them.
func TestGoodEach(t *testing.T) {
	for n := -300; n <= 600; n++ {
		if good := notice.Good(api.Notice{Code: n}); good != (0 < n && n < 256) {
			t.Errorf("Code %d: %v", n, good)
		}
		if good := notice.Good(api.Notice{Code: 1, Sub: n}); good != (-1 < n && n < 256) {
			t.Errorf("Sub %d: %v", n, good)
		}
	}
}

// unlike are notices, good ones and others, no two of which are the same.
func unlike() []api.Notice {
	all := []api.Notice{
		{}, {Code: 1}, {Code: -1}, {Code: 6}, {Code: 256}, {Code: 257}, {Code: 1<<32 + 1}, {Code: math.MinInt}, {Code: math.MaxInt},
		{Sub: 1}, {Sub: -1}, {Sub: 6}, {Sub: 256}, {Sub: 257}, {Sub: 1<<32 + 1}, {Sub: math.MinInt}, {Sub: math.MaxInt},
		{Code: 1, Sub: 6}, {Code: 6, Sub: 1}, {Code: 6, Sub: 2}, {Code: 1, Sub: 1},
	}
	for _, n := range []api.Notice{{}, {Code: 6, Sub: 2}, {Code: 7, Sub: 2}, {Code: 6, Sub: 3}} {
		for _, data := range [][]byte{{0}, {1}, {0, 0}, {0, 1}, {1, 0}, {1, 2, 3}, {1, 2, 4}, {2, 2, 3}, {1, 3, 3}, {1, 2, 3, 0}, long(4074), long(4075), long(4076)} {
			all = append(all, api.Notice{Code: n.Code, Sub: n.Sub, Data: data})
		}
	}
	// A great notice that differs from another one in a single byte.
	for _, at := range []int{0, 2000, 4074} {
		data := long(4075)
		data[at] ^= 0x80
		all = append(all, api.Notice{Code: 6, Sub: 2, Data: data})
	}
	return all
}

// P11.1: each notice is the same as one of equal parts, and as no other.
func TestSame(t *testing.T) {
	all, again := unlike(), unlike()
	for i, a := range all {
		for j, b := range again {
			if same := notice.Same(a, b); same != (i == j) {
				t.Errorf("%d, %d: %v", i, j, same)
			}
		}
	}
}

// P11.1: Data that are nil and Data that are empty are equal, and so are those that have room behind them.
func TestSameEmpty(t *testing.T) {
	empty := [][]byte{nil, {}, long(9)[:0]}
	for _, n := range []api.Notice{{}, {Code: 6, Sub: 2}, {Code: -1, Sub: 256}} {
		for _, a := range empty {
			for _, b := range empty {
				if !notice.Same(api.Notice{Code: n.Code, Sub: n.Sub, Data: a}, api.Notice{Code: n.Code, Sub: n.Sub, Data: b}) {
					t.Errorf("%d, %d: %#v, %#v", n.Code, n.Sub, a, b)
				}
			}
		}
	}
	if !notice.Same(api.Notice{Code: 6, Data: long(9)[:5]}, api.Notice{Code: 6, Data: append(long(5), 1, 2)[:5]}) {
		t.Error("room behind the data")
	}
}

// P11.1: only where every field is zero there is none.
func TestNone(t *testing.T) {
	for i, n := range unlike() {
		if none := notice.None(n); none != (i == 0) {
			t.Errorf("%d, %d, %d bytes: %v", n.Code, n.Sub, len(n.Data), none)
		}
	}
	for _, data := range [][]byte{nil, {}, long(9)[:0]} {
		if !notice.None(api.Notice{Data: data}) {
			t.Errorf("%#v", data)
		}
	}
	every(func(n api.Notice, _ bool) {
		if notice.None(n) != (n.Code == 0 && n.Sub == 0 && len(n.Data) == 0) {
			t.Errorf("%d, %d, %d bytes", n.Code, n.Sub, len(n.Data))
		}
	})
}

// P11.1: whatever the Sub is, it is the notice's; only of those that may be the notice is good.
func TestClose(t *testing.T) {
	closes := func(sub int, good bool) {
		n := notice.Close(sub)
		if n.Code != 6 || n.Sub != sub || len(n.Data) != 0 || notice.Good(n) != good {
			t.Errorf("%d: %v", sub, n)
		}
		if b, e := notice.Encode(n); good != (e == api.OK) || good != bytes.Equal(b, []byte{6, byte(sub)}) {
			t.Errorf("%d: % x, %v", sub, b, e)
		}
	}
	for sub := range 256 {
		closes(sub, true)
	}
	for _, sub := range subs {
		closes(sub.n, sub.ok)
	}
}

// words are Codes and what they are called.
var words = []struct {
	code int
	word string
}{
	{0, "other"}, {1, "head"}, {2, "open"}, {3, "update"}, {4, "hold"}, {5, "state"}, {6, "cease"}, {7, "other"}, {8, "other"}, {10, "other"}, {100, "other"}, {255, "other"},
	{256, "other"}, {257, "other"}, {262, "other"}, {1<<16 + 1, "other"}, {1<<32 + 1, "other"}, {1<<32 + 6, "other"}, {math.MaxInt, "other"},
	{-1, "other"}, {-2, "other"}, {-6, "other"}, {-250, "other"}, {math.MinInt, "other"}, {math.MinInt + 1, "other"},
}

// P11.2
func TestName(t *testing.T) {
	for _, sub := range []struct {
		n    int
		text string
	}{
		{0, ""}, {1, " 1"}, {2, " 2"}, {9, " 9"}, {10, " 10"}, {99, " 99"}, {100, " 100"}, {101, " 101"}, {255, " 255"}, {256, " 256"}, {65536, " 65536"}, {4294967296, " 4294967296"},
		{9223372036854775807, " 9223372036854775807"}, {9223372036854775806, " 9223372036854775806"},
		{-1, " -1"}, {-2, " -2"}, {-10, " -10"}, {-255, " -255"}, {-256, " -256"}, {-4294967296, " -4294967296"},
		{-9223372036854775807, " -9223372036854775807"}, {-9223372036854775808, " -9223372036854775808"},
	} {
		for _, x := range words {
			for _, data := range [][]byte{nil, {}, {7}, []byte("2"), long(4076)} {
				if s := notice.Name(api.Notice{Code: x.code, Sub: sub.n, Data: data}); s != x.word+sub.text {
					t.Errorf("%d, %d: %q, not %q", x.code, sub.n, s, x.word+sub.text)
				}
			}
		}
	}
}

// P11.2: the chapter's example, and what a notice is called that tells of nothing.
func TestNameExample(t *testing.T) {
	for want, n := range map[string]api.Notice{"cease 2": notice.Close(2), "cease": notice.Close(0), "cease -2": notice.Close(-2), "other": {}} {
		if s := notice.Name(n); s != want {
			t.Errorf("%q, not %q", s, want)
		}
	}
}

// P11.2: no Code beside the six has a word of its own.
func TestNameOther(t *testing.T) {
	for code := -1000; code <= 70000; code++ {
		if s := notice.Name(api.Notice{Code: code}); (s == "other") != (code < 1 || code > 6) {
			t.Errorf("%d: %q", code, s)
		}
	}
}
