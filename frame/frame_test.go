package frame_test

import (
	"bytes"
	"math"
	"testing"

	"confluence/api"
	"confluence/frame"
)

// long is n bytes that are not all alike.
func long(n int) []byte {
	b := make([]byte, n)
	for i := range b {
		b[i] = byte(i*7 + i/256)
	}
	return b
}

// join puts lists one behind the other, in new memory.
func join(lists ...[]byte) []byte {
	return bytes.Join(lists, nil)
}

// head is the bytes ahead of a body: the marker, any size, and any type.
func head(size, kind int) []byte {
	b := []byte{255, 255, 255, 255, 255, 255, 255, 255, 255, 255, 255, 255, 255, 255, 255, 255}
	return append(b, byte(size/256), byte(size%256), byte(kind))
}

// bad is such a head with another byte at one place of the marker.
func bad(size, kind, at int) []byte {
	b := head(size, kind)
	b[at] = 0xfe
	return b
}

// message is a message with a body of so many bytes, whether that may be or not.
func message(kind, body int) []byte {
	return append(head(19+body, kind), long(body)...)
}

// item is a frame as it is made by message.
func item(kind, body int) frame.Frame {
	return frame.Frame{Type: kind, Body: long(body)}
}

// same tells whether two lists of frames are equal.
func same(a, b []frame.Frame) bool {
	if len(a) != len(b) {
		return false
	}
	for i := range a {
		if a[i].Type != b[i].Type || !bytes.Equal(a[i].Body, b[i].Body) {
			return false
		}
	}
	return true
}

// alike tells whether two notices are equal.
func alike(a, b api.Notice) bool {
	return a.Code == b.Code && a.Sub == b.Sub && bytes.Equal(a.Data, b.Data)
}

// fault is a notice of a head.
func fault(sub int, data ...byte) api.Notice {
	return api.Notice{Code: 1, Sub: sub, Data: data}
}

// plain splits by places in the list, each rule as the chapter tells it: it owes nothing to what it checks.
func plain(b []byte) (frames []frame.Frame, at int, n api.Notice) {
	for at+19 <= len(b) {
		for _, c := range b[at : at+16] {
			if c != 255 {
				return frames, at, fault(1)
			}
		}
		high, low, kind := b[at+16], b[at+17], b[at+18]
		size := int(high)*256 + int(low)
		if size < 19 || size > 4096 {
			return frames, at, fault(2, high, low)
		}
		if kind != 1 && kind != 2 && kind != 3 && kind != 4 {
			return frames, at, fault(3, kind)
		}
		if kind == 1 && size < 29 || kind == 2 && size < 23 || kind == 3 && size < 21 || kind == 4 && size != 19 {
			return frames, at, fault(2, high, low)
		}
		if at+size > len(b) {
			break
		}
		frames = append(frames, frame.Frame{Type: int(kind), Body: b[at+19 : at+size]})
		at += size
	}
	return frames, at, api.Notice{}
}

// splits reports bytes that are not split into just these frames of so many bytes.
func splits(t *testing.T, b []byte, size int, want ...frame.Frame) {
	t.Helper()
	faults(t, b, api.Notice{}, size, want...)
}

// faults reports bytes that are not split into just these frames of so many bytes with this notice behind them.
func faults(t *testing.T, b []byte, notice api.Notice, size int, want ...frame.Frame) {
	t.Helper()
	l, done, n := frame.Split(b)
	if !same(l, want) || done != size || !alike(n, notice) {
		t.Errorf("%d bytes: %d frames of %d bytes, %v, not %d of %d, %v", len(b), len(l), done, n, len(want), size, notice)
	}
}

// shape is a type, and how many bytes a body has.
type shape struct{ kind, body int }

// shapes are messages that may be, those with the fewest and the most bytes of each type among them.
var shapes = []shape{{1, 10}, {1, 11}, {1, 18}, {1, 4077}, {2, 4}, {2, 5}, {2, 300}, {2, 4077}, {3, 2}, {3, 3}, {3, 4077}, {4, 0}}

// P12.1: the chapter's example, and others byte by byte.
func TestWrap(t *testing.T) {
	mark := []byte{0xff, 0xff, 0xff, 0xff, 0xff, 0xff, 0xff, 0xff, 0xff, 0xff, 0xff, 0xff, 0xff, 0xff, 0xff, 0xff}
	for _, x := range []struct {
		kind int
		body []byte
		want []byte
	}{
		{4, nil, []byte{0, 0x13, 4}},
		{4, []byte{}, []byte{0, 0x13, 4}},
		{4, []byte{7}, []byte{0, 0x14, 4, 7}},
		{1, nil, []byte{0, 0x13, 1}},
		{1, []byte{4, 1, 44, 0, 90, 10, 0, 0, 1, 0}, []byte{0, 0x1d, 1, 4, 1, 44, 0, 90, 10, 0, 0, 1, 0}},
		{2, []byte{0, 0, 0, 0}, []byte{0, 0x17, 2, 0, 0, 0, 0}},
		{2, []byte{0xff}, []byte{0, 0x14, 2, 0xff}},
		{3, []byte{6, 2}, []byte{0, 0x15, 3, 6, 2}},
	} {
		if b, e := frame.Wrap(x.kind, x.body); e != api.OK || !bytes.Equal(b, join(mark, x.want)) {
			t.Errorf("%d, % x: % x, %v", x.kind, x.body, b, e)
		}
	}
}

// P12.1: whatever the body is: each type with each number of bytes that a message can have.
func TestWrapSizes(t *testing.T) {
	for kind := 1; kind <= 4; kind++ {
		for body := range 4078 {
			b, e := frame.Wrap(kind, long(body))
			if e != api.OK || !bytes.Equal(b, message(kind, body)) {
				t.Fatalf("%d, %d bytes: %d bytes, %v", kind, body, len(b), e)
			}
		}
	}
}

// P12.1: types that may not be, whatever the body is, those whose lowest byte may be among them; and bodies that are too long.
func TestWrapErrors(t *testing.T) {
	few := []int{0, 1, 2, 10, 4076, 4077}
	much := []int{4078, 4079, 4096, 65516, 65517, 65535, 65536, 65537 + 19, 1 << 20}
	for _, kind := range []int{0, 5, 6, 127, 128, 254, 255, 256, 257, 258, 260, 511, -1, -2, -252, -255, -256, 1<<16 + 1, 1<<32 + 4, math.MaxInt32, math.MinInt32, math.MaxInt, math.MinInt} {
		for _, body := range append(few, much...) {
			if b, e := frame.Wrap(kind, long(body)); b != nil || e != api.ErrArg {
				t.Errorf("%d, %d bytes: %d bytes, %v", kind, body, len(b), e)
			}
		}
	}
	for kind := 1; kind <= 4; kind++ {
		for _, body := range few {
			if b, e := frame.Wrap(kind, long(body)); len(b) != 19+body || e != api.OK {
				t.Errorf("%d, %d bytes: %d bytes, %v", kind, body, len(b), e)
			}
		}
		for _, body := range much {
			if b, e := frame.Wrap(kind, long(body)); b != nil || e != api.ErrLong {
				t.Errorf("%d, %d bytes: %d bytes, %v", kind, body, len(b), e)
			}
		}
	}
}

// P12.1, P12.3: what is wrapped is split again.
func TestWrapSplit(t *testing.T) {
	var all []byte
	var want []frame.Frame
	for _, x := range shapes {
		b, e := frame.Wrap(x.kind, long(x.body))
		if e != api.OK {
			t.Fatal(x, e)
		}
		splits(t, b, 19+x.body, item(x.kind, x.body))
		all, want = append(all, b...), append(want, item(x.kind, x.body))
		splits(t, all, len(all), want...)
	}
}

// P12.3
func TestSplit(t *testing.T) {
	splits(t, nil, 0)
	splits(t, []byte{}, 0)
	keep := message(4, 0)
	splits(t, keep, 19, item(4, 0))
	splits(t, join(keep, keep, keep), 57, item(4, 0), item(4, 0), item(4, 0))
	splits(t, join(message(1, 10), keep, message(2, 23), message(3, 2)), 29+19+42+21, item(1, 10), item(4, 0), item(2, 23), item(3, 2))
	splits(t, join(keep, []byte{255}), 19, item(4, 0))
	splits(t, join(keep, []byte{0, 1, 2}), 19, item(4, 0))
	splits(t, join(keep, message(2, 23)[:41]), 19, item(4, 0))
}

// P12.3: every row of two messages, cut at every place of the second one that matters.
func TestSplitRows(t *testing.T) {
	for _, x := range shapes {
		for _, y := range shapes {
			first, second := message(x.kind, x.body), message(y.kind, y.body)
			splits(t, join(first, second), len(first)+len(second), item(x.kind, x.body), item(y.kind, y.body))
			for _, cut := range []int{0, 1, 15, 16, 17, 18, 19, 20, len(second) - 1} {
				if cut < len(second) {
					splits(t, join(first, second[:cut]), len(first), item(x.kind, x.body))
				}
			}
		}
	}
}

// P12.3: a message cut at every place is none yet.
func TestSplitCuts(t *testing.T) {
	for _, x := range shapes {
		b := message(x.kind, x.body)
		for cut := range b {
			splits(t, b[:cut], 0)
		}
		splits(t, b, len(b), item(x.kind, x.body))
	}
}

// P12.2, P12.3: every length with each type and some others: a head alone tells whether it may be.
func TestHeads(t *testing.T) {
	for _, kind := range []int{0, 1, 2, 3, 4, 5, 255} {
		for size := range 65536 {
			b := head(size, kind)
			frames, done, n := plain(b)
			l, d, m := frame.Split(b)
			if !same(l, frames) || d != done || !alike(m, n) {
				t.Fatalf("%d, %d: %v, %d, %v", kind, size, l, d, m)
			}
		}
	}
}

// P12.2, P12.3: every type with some lengths.
func TestHeadTypes(t *testing.T) {
	for kind := range 256 {
		for _, size := range []int{19, 20, 21, 22, 23, 24, 28, 29, 30, 4095, 4096} {
			b := append(head(size, kind), long(size-19)...)
			if kind == 0 || kind > 4 {
				faults(t, b, fault(3, byte(kind)), 0)
				faults(t, b[:19], fault(3, byte(kind)), 0)
				splits(t, b[:18], 0)
			}
			frames, done, n := plain(b)
			faults(t, b, n, done, frames...)
		}
	}
}

// P12.2, P12.3: the least lengths, and those next to them.
func TestHeadLengths(t *testing.T) {
	for _, x := range []struct {
		kind, size int
		ok         bool
	}{
		{1, 29, true}, {1, 28, false}, {1, 30, true}, {1, 19, false}, {1, 18, false}, {1, 0, false}, {1, 4096, true}, {1, 4097, false}, {1, 65535, false},
		{2, 23, true}, {2, 22, false}, {2, 24, true}, {2, 19, false}, {2, 18, false}, {2, 0, false}, {2, 4096, true}, {2, 4097, false}, {2, 65535, false},
		{3, 21, true}, {3, 20, false}, {3, 22, true}, {3, 19, false}, {3, 18, false}, {3, 0, false}, {3, 4096, true}, {3, 4097, false}, {3, 65535, false},
		{4, 19, true}, {4, 20, false}, {4, 21, false}, {4, 275, false}, {4, 18, false}, {4, 0, false}, {4, 4096, false}, {4, 4097, false}, {4, 65535, false},
	} {
		b := head(x.size, x.kind)
		if !x.ok {
			high, low := byte(x.size/256), byte(x.size%256)
			faults(t, b, fault(2, high, low), 0)
			faults(t, append(b, long(70000)...), fault(2, high, low), 0)
			faults(t, join(message(3, 2), b), fault(2, high, low), 21, item(3, 2))
			continue
		}
		if x.size > 19 {
			splits(t, b, 0)
		}
		splits(t, message(x.kind, x.size-19), x.size, item(x.kind, x.size-19))
	}
}

// P12.2, P12.3: each byte of the marker, alone, be there a body or not.
func TestMarker(t *testing.T) {
	for at := range 16 {
		for c := range 255 {
			for _, x := range []shape{{4, 0}, {2, 9}} {
				b := message(x.kind, x.body)
				b[at] = byte(c)
				faults(t, b, fault(1), 0)
				faults(t, b[:19], fault(1), 0)
				faults(t, join(message(1, 10), b), fault(1), 29, item(1, 10))
				splits(t, b[:18], 0)
			}
		}
	}
}

// P12.2, P12.3: of two faults at once, the first one in the chapter's order.
func TestHeadTwo(t *testing.T) {
	for name, x := range map[string]struct {
		b []byte
		n api.Notice
	}{
		"marker, too short":           {bad(18, 4, 0), fault(1)},
		"marker, too long":            {bad(4097, 2, 15), fault(1)},
		"marker, type":                {bad(19, 5, 7), fault(1)},
		"marker, short of the type":   {bad(28, 1, 8), fault(1)},
		"marker, a body of type 4":    {bad(20, 4, 15), fault(1)},
		"marker, too short, type":     {bad(0, 0, 3), fault(1)},
		"too short, type":             {head(18, 5), fault(2, 0, 18)},
		"none, type":                  {head(0, 0), fault(2, 0, 0)},
		"too long, type":              {head(4097, 0), fault(2, 16, 1)},
		"most, type":                  {head(65535, 255), fault(2, 255, 255)},
		"too short, short of a type":  {head(18, 1), fault(2, 0, 18)},
		"too long, a body of type 4":  {head(4097, 4), fault(2, 16, 1)},
		"type, short of most types":   {head(19, 5), fault(3, 5)},
		"type 0, short of most types": {head(20, 0), fault(3, 0)},
		"type 255, the most bytes":    {head(4096, 255), fault(3, 255)},
	} {
		if l, done, n := frame.Split(x.b); l != nil || done != 0 || !alike(n, x.n) {
			t.Errorf("%s: %v, %d, %v", name, l, done, n)
		}
		faults(t, join(message(2, 9), message(4, 0), x.b, message(4, 0)), x.n, 28+19, item(2, 9), item(4, 0))
	}
}

// P12.3: what a head breaks ends there, whatever stands behind it; what stands ahead of it counts.
func TestSplitFault(t *testing.T) {
	for _, x := range shapes {
		first := message(x.kind, x.body)
		for _, b := range [][]byte{bad(19, 4, 9), head(18, 4), head(19, 0), head(20, 4)} {
			_, _, n := plain(b)
			faults(t, join(first, b), n, len(first), item(x.kind, x.body))
			faults(t, join(first, first, b, first), n, 2*len(first), item(x.kind, x.body), item(x.kind, x.body))
			splits(t, join(first, b[:18]), len(first), item(x.kind, x.body))
		}
	}
}

// P12.3: many messages.
func TestSplitMany(t *testing.T) {
	var want []frame.Frame
	for i := range 20000 {
		x := shapes[i*i%len(shapes)]
		if x.body > 300 {
			x = shape{2, 4 + i%300}
		}
		want = append(want, item(x.kind, x.body))
	}
	var all []byte
	for _, f := range want {
		b, _ := frame.Wrap(f.Type, f.Body)
		all = append(all, b...)
	}
	splits(t, all, len(all), want...)
	splits(t, join(all, message(2, 4077)[:4095]), len(all), want...)
	faults(t, join(all, head(19, 9)), fault(3, 9), len(all), want...)
}
