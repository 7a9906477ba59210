package frame_test

import (
	"testing"

	"confluence/api"
	"confluence/frame"
)

// waits reports a stream in which not so many bytes wait, or that is broken.
func waits(t *testing.T, s *frame.Stream, size int) {
	t.Helper()
	if s.Waits() != size || s.Broken() {
		t.Errorf("%d bytes wait, broken %v, not %d", s.Waits(), s.Broken(), size)
	}
}

// broken reports a stream that is not broken, or that answers something.
func broken(t *testing.T, s *frame.Stream) {
	t.Helper()
	if s.Waits() != 0 || !s.Broken() {
		t.Errorf("%d bytes wait, broken %v", s.Waits(), s.Broken())
	}
	for _, b := range [][]byte{nil, {}, {255}, message(4, 0), head(19, 0), bad(19, 4, 0), long(5000)} {
		if l, n := s.Feed(b); l != nil || !alike(n, api.Notice{}) || s.Waits() != 0 || !s.Broken() {
			t.Errorf("a broken stream: %v, %v, %d bytes wait", l, n, s.Waits())
		}
	}
}

// feeds reports a call that does not answer just these frames.
func feeds(t *testing.T, s *frame.Stream, b []byte, want ...frame.Frame) {
	t.Helper()
	if l, n := s.Feed(b); !same(l, want) || !alike(n, api.Notice{}) {
		t.Errorf("%d bytes: %d frames, %v, not %d", len(b), len(l), n, len(want))
	}
}

// breaks reports a call that does not answer just these frames with this notice.
func breaks(t *testing.T, s *frame.Stream, b []byte, notice api.Notice, want ...frame.Frame) {
	t.Helper()
	if l, n := s.Feed(b); !same(l, want) || !alike(n, notice) {
		t.Errorf("%d bytes: %d frames, %v, not %d, %v", len(b), len(l), n, len(want), notice)
	}
	broken(t, s)
}

// agrees feeds a list piece by piece, and reports each call that does not answer what is whole with it, as by plain.
func agrees(t *testing.T, pieces ...[]byte) {
	t.Helper()
	s := frame.New()
	var all []byte
	told, gone := 0, false
	for i, p := range pieces {
		all = append(all, p...)
		frames, done, notice := plain(all)
		if gone {
			frames, notice = frames[:told], api.Notice{}
		}
		l, n := s.Feed(p)
		if !same(l, frames[told:]) || !alike(n, notice) {
			t.Fatalf("piece %d of %d bytes: %d frames, %v, not %d, %v", i, len(p), len(l), n, len(frames)-told, notice)
		}
		told, gone = len(frames), gone || n.Code != 0
		left := len(all) - done
		if gone {
			left = 0
		}
		if s.Waits() != left || s.Broken() != gone {
			t.Fatalf("piece %d of %d bytes: %d bytes wait, broken %v, not %d, %v", i, len(p), s.Waits(), s.Broken(), left, gone)
		}
	}
}

// bytewise is a list one byte at a time.
func bytewise(b []byte) [][]byte {
	var l [][]byte
	for i := range b {
		l = append(l, b[i:i+1])
	}
	return l
}

// P12.2
func TestNew(t *testing.T) {
	s, o := frame.New(), frame.New()
	if s == nil || s == o {
		t.Fatal("no stream of its own")
	}
	waits(t, s, 0)
	feeds(t, s, nil)
	feeds(t, s, []byte{})
	waits(t, s, 0)
	feeds(t, s, message(2, 9)[:25])
	waits(t, s, 25)
	waits(t, o, 0)
	breaks(t, o, head(0, 0), fault(2, 0, 0))
	waits(t, s, 25)
}

// P12.2: each type, alone and in rows.
func TestFeed(t *testing.T) {
	s := frame.New()
	for _, x := range shapes {
		feeds(t, s, message(x.kind, x.body), item(x.kind, x.body))
		waits(t, s, 0)
	}
	feeds(t, s, join(message(4, 0), message(1, 10), message(2, 77), message(3, 2)), item(4, 0), item(1, 10), item(2, 77), item(3, 2))
	waits(t, s, 0)
	feeds(t, s, join(message(4, 0), message(2, 9)[:1]), item(4, 0))
	waits(t, s, 1)
	feeds(t, s, message(2, 9)[1:20])
	waits(t, s, 20)
	feeds(t, s, nil)
	feeds(t, s, []byte{})
	waits(t, s, 20)
	feeds(t, s, join(message(2, 9)[20:], message(3, 4), message(2, 4077)[:4095]), item(2, 9), item(3, 4))
	waits(t, s, 4095)
	feeds(t, s, join(message(2, 4077)[4095:], message(4, 0)), item(2, 4077), item(4, 0))
	waits(t, s, 0)
}

// P12.2, P12.4: a message cut at every place, alone and behind another one; and each message one byte at a time.
func TestFeedCuts(t *testing.T) {
	for _, x := range shapes {
		b := message(x.kind, x.body)
		all := join(b, message(4, 0), b)
		for cut := range len(b) + 1 {
			s := frame.New()
			if cut < len(b) {
				feeds(t, s, b[:cut])
				waits(t, s, cut)
				feeds(t, s, b[cut:], item(x.kind, x.body))
				waits(t, s, 0)
			}
			feeds(t, s, all[:len(b)+19+cut], plainFrames(all[:len(b)+19+cut])...)
			waits(t, s, cut%len(b))
			feeds(t, s, all[len(b)+19+cut:], plainFrames(all)[len(plainFrames(all[:len(b)+19+cut])):]...)
			waits(t, s, 0)
		}
		agrees(t, bytewise(all)...)
	}
}

// plainFrames is the frames alone.
func plainFrames(b []byte) []frame.Frame {
	l, _, _ := plain(b)
	return l
}

// P12.4: every way to cut some bytes into three pieces, with a fault, with a rest, and whole.
func TestFeedThree(t *testing.T) {
	for _, b := range [][]byte{
		join(message(4, 0), message(3, 2), message(4, 0)),
		join(message(1, 10), message(2, 4)),
		join(message(4, 0), message(2, 9)[:26]),
		join(message(3, 5), head(18, 4), message(4, 0)),
		join(message(3, 5), head(19, 7), message(4, 0)),
		join(message(3, 5), bad(19, 4, 15), long(9)),
		join(message(2, 4), message(4, 1), message(4, 0)),
		join(head(0, 0), head(19, 4), head(19, 4)),
		make([]byte, 40),
	} {
		for i := range len(b) + 1 {
			for j := i; j <= len(b); j++ {
				agrees(t, b[:i], b[i:j], b[j:])
			}
		}
		agrees(t, bytewise(b)...)
	}
}

// P12.4: rows of messages and of heads that may not be, in pieces of each size.
func TestFeedSizes(t *testing.T) {
	parts := [][]byte{message(4, 0), message(2, 4077), message(1, 10), message(3, 21), head(4096, 4), head(22, 2), bad(30, 1, 4), head(30, 9), message(2, 9)[:27]}
	for row := range len(parts) * len(parts) * len(parts) {
		b := join(parts[row/81], parts[row/9%9], parts[row%9])
		for _, size := range []int{1, 2, 7, 18, 19, 20, 1000, 4095, 4096, 4097} {
			if size < 7 && len(b) > 500 {
				continue
			}
			var pieces [][]byte
			for at := 0; at < len(b); at += size {
				pieces = append(pieces, b[at:min(at+size, len(b))])
			}
			agrees(t, pieces...)
		}
	}
}

// P12.2: a head is examined as soon as it is there: not with 18 bytes, and not only with its body.
func TestFeedHead(t *testing.T) {
	for at := range 16 {
		s := frame.New()
		b := bad(23, 2, at)
		for i := range 18 {
			feeds(t, s, b[i:i+1])
			waits(t, s, i+1)
		}
		breaks(t, s, b[18:19], fault(1))
	}
	for _, x := range []struct {
		size, kind int
		n          api.Notice
	}{
		{18, 4, fault(2, 0, 18)}, {0, 1, fault(2, 0, 0)}, {4097, 2, fault(2, 16, 1)}, {65535, 3, fault(2, 255, 255)},
		{19, 0, fault(3, 0)}, {4096, 5, fault(3, 5)}, {100, 255, fault(3, 255)},
		{28, 1, fault(2, 0, 28)}, {22, 2, fault(2, 0, 22)}, {20, 3, fault(2, 0, 20)}, {20, 4, fault(2, 0, 20)}, {4096, 4, fault(2, 16, 0)},
	} {
		b := head(x.size, x.kind)
		s := frame.New()
		feeds(t, s, b[:18])
		waits(t, s, 18)
		breaks(t, s, b[18:], x.n)
		s = frame.New()
		breaks(t, s, b, x.n)
		s = frame.New()
		breaks(t, s, join(message(4, 0), message(3, 9), b, message(4, 0)), x.n, item(4, 0), item(3, 9))
		// A message whose last byte comes together with the head is told too.
		s = frame.New()
		feeds(t, s, message(2, 9)[:27])
		breaks(t, s, join(message(2, 9)[27:], b), x.n, item(2, 9))
		s = frame.New()
		feeds(t, s, join(message(2, 9), b[:3]), item(2, 9))
		feeds(t, s, b[3:18])
		waits(t, s, 18)
		breaks(t, s, join(b[18:], long(9)), x.n)
	}
	for _, x := range shapes {
		s := frame.New()
		feeds(t, s, message(x.kind, x.body)[:18])
		waits(t, s, 18)
		if x.body == 0 {
			feeds(t, s, message(x.kind, x.body)[18:], item(x.kind, x.body))
			continue
		}
		feeds(t, s, message(x.kind, x.body)[18:19])
		waits(t, s, 19)
	}
}

// P12.2: a broken stream remains so till it is reset; then it knows nothing of what came before.
func TestBroken(t *testing.T) {
	for _, b := range [][]byte{bad(19, 4, 0), head(18, 4), head(19, 5), head(28, 1), head(20, 4)} {
		_, _, n := plain(b)
		s := frame.New()
		for range 3 {
			breaks(t, s, join(message(3, 2), b, message(2, 9)[:20]), n, item(3, 2))
			broken(t, s)
			s.Reset()
			waits(t, s, 0)
			feeds(t, s, nil)
			feeds(t, s, join(message(4, 0), message(2, 9)[:20]), item(4, 0))
			waits(t, s, 20)
			feeds(t, s, message(2, 9)[20:], item(2, 9))
			waits(t, s, 0)
		}
	}
}

// P12.2: what waited is gone with a reset, wherever it was cut.
func TestReset(t *testing.T) {
	s := frame.New()
	s.Reset()
	waits(t, s, 0)
	for _, x := range shapes {
		b := message(x.kind, x.body)
		for _, cut := range []int{0, 1, 15, 16, 17, 18, 19, 20, len(b) - 1} {
			if cut >= len(b) {
				continue
			}
			feeds(t, s, b[:cut])
			waits(t, s, cut)
			s.Reset()
			waits(t, s, 0)
			feeds(t, s, nil)
			feeds(t, s, message(4, 0), item(4, 0))
			feeds(t, s, b, item(x.kind, x.body))
			waits(t, s, 0)
			s.Reset()
			s.Reset()
			waits(t, s, 0)
		}
	}
	feeds(t, s, message(2, 9)[:20])
	s.Reset()
	breaks(t, s, message(2, 9)[1:], fault(1))
}

// P12.2: a nil stream.
func TestNil(t *testing.T) {
	var s *frame.Stream
	for range 2 {
		for _, b := range [][]byte{nil, {}, message(4, 0), message(2, 9)[:20], head(0, 0), bad(19, 4, 0)} {
			if l, n := s.Feed(b); l != nil || !alike(n, api.Notice{}) {
				t.Errorf("Feed: %v, %v", l, n)
			}
			waits(t, s, 0)
		}
		s.Reset()
		waits(t, s, 0)
	}
}

// P12.3: Split answers what one call to a new stream answers, and how many bytes wait in it is the rest.
func TestSplitFeed(t *testing.T) {
	for _, b := range [][]byte{nil, {}, long(18), message(4, 0), join(message(2, 9), message(3, 2), message(1, 10)[:28]), join(message(2, 9), head(19, 9), message(4, 0)), head(4097, 4)} {
		l, done, n := frame.Split(b)
		s := frame.New()
		frames, notice := s.Feed(b)
		if !same(l, frames) || !alike(n, notice) || n.Code == 0 && done+s.Waits() != len(b) {
			t.Errorf("%d bytes: %v, %d, %v, but %v, %v", len(b), l, done, n, frames, notice)
		}
	}
}

// Any bytes, in pieces of any size.
func FuzzFeed(f *testing.F) {
	for _, b := range [][]byte{nil, message(4, 0), join(message(1, 10), message(2, 300), message(3, 2)), join(message(4, 0), head(20, 4)), join(message(3, 2), head(19, 0)), bad(19, 4, 7), head(4097, 1), message(2, 4077), message(2, 9)[:25]} {
		f.Add(b, byte(1), byte(20))
		f.Add(b, byte(19), byte(255))
	}
	f.Fuzz(func(t *testing.T, b []byte, one, two byte) {
		l, done, n := frame.Split(b)
		if frames, size, notice := plain(b); !same(l, frames) || done != size || !alike(n, notice) {
			t.Fatalf("% x: %v, %d, %v, not %v, %d, %v", b, l, done, n, frames, size, notice)
		}
		var pieces [][]byte
		for rest := b; len(rest) > 0; one, two = two, one {
			size := min(int(one)+1, len(rest))
			pieces, rest = append(pieces, rest[:size]), rest[size:]
		}
		agrees(t, pieces...)
		var again []byte
		for _, x := range l {
			m, e := frame.Wrap(x.Type, x.Body)
			if e != api.OK {
				t.Fatalf("%v: %v", x, e)
			}
			again = append(again, m...)
		}
		if string(again) != string(b[:done]) {
			t.Errorf("% x, not % x", again, b[:done])
		}
	})
}
