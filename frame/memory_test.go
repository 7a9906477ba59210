package frame_test

import (
	"bytes"
	"testing"

	"confluence/api"
	"confluence/frame"
)

// roomy is a copy of b with marked room behind it, where nothing may be written either, and the whole of its memory.
func roomy(b []byte) (list, whole []byte) {
	whole = append(bytes.Clone(b), 0xee, 0xee, 0xee, 0xee, 0xee, 0xee, 0xee, 0xee)
	return whole[:len(b)], whole
}

// scribble writes over all the memory that a list reaches.
func scribble(b []byte) {
	b = b[:cap(b)]
	for i := range b {
		b[i] = 0xbb
	}
}

// spoil writes over all the memory that an answer reaches.
func spoil(l []frame.Frame, n api.Notice) {
	for _, f := range l {
		scribble(append(f.Body, 0xbb, 0xbb))
		scribble(f.Body)
	}
	l = l[:cap(l)]
	for i := range l {
		l[i] = frame.Frame{Type: 99}
	}
	scribble(append(n.Data, 0xbb))
	scribble(n.Data)
}

// What is wrapped is neither the body that was handed in nor the next answer, and the body is not changed, nor the memory behind it.
func TestMemoryWrap(t *testing.T) {
	for _, body := range []int{0, 1, 10, 300, 4077, 4078} {
		for kind := range 6 {
			b, whole := roomy(long(body))
			keep := bytes.Clone(whole)
			l, e := frame.Wrap(kind, b)
			next, _ := frame.Wrap(kind, b)
			scribble(append(next, 0xbb, 0xbb))
			scribble(next)
			if !bytes.Equal(whole, keep) {
				t.Errorf("%d, %d bytes: changed", kind, body)
			}
			scribble(whole)
			if e == api.OK && !bytes.Equal(l, message(kind, body)) {
				t.Errorf("%d, %d bytes: %d bytes", kind, body, len(l))
			}
		}
	}
}

// lists are bytes that are split, with a rest, with a fault, and whole.
func lists() [][]byte {
	return [][]byte{
		nil, {}, message(4, 0), message(2, 4077), message(2, 9)[:25],
		join(message(1, 10), message(3, 5), message(4, 0), message(2, 300)),
		join(message(3, 5), message(2, 9), message(2, 300)[:200]),
		join(message(3, 5), message(2, 9), head(18, 4), message(4, 0)),
		join(message(3, 5), message(2, 9), head(19, 8)),
		join(message(3, 5), head(20, 4)),
		bad(19, 4, 3),
	}
}

// Bytes that are split are not changed, nor is what stands behind them read or changed; and what is answered is neither they nor the next answer.
func TestMemorySplit(t *testing.T) {
	for i, x := range lists() {
		b, whole := roomy(x)
		keep := bytes.Clone(whole)
		l, done, n := frame.Split(b)
		next, _, other := frame.Split(b)
		spoil(next, other)
		if !bytes.Equal(whole, keep) {
			t.Errorf("%d: changed", i)
		}
		scribble(whole)
		if frames, size, notice := plain(x); !same(l, frames) || done != size || !alike(n, notice) {
			t.Errorf("%d: %v, %d, %v", i, l, done, n)
		}
	}
}

// Bytes that are fed are not changed, nor is what stands behind them, by whatever comes later; and what becomes of them, and of what was answered, does not change what the stream tells, cut at every place.
func TestMemoryFeed(t *testing.T) {
	for i, x := range lists() {
		want, _, notice := plain(x)
		for cut := 0; cut <= len(x); cut += 1 + cut/300*100 {
			s := frame.New()
			first, wholeFirst := roomy(x[:cut])
			second, wholeSecond := roomy(x[cut:])
			keep := bytes.Clone(wholeSecond)
			l, n := s.Feed(first)
			ahead, _, before := plain(x[:cut])
			if !same(l, ahead) || !alike(n, before) {
				t.Errorf("%d, %d: %v, %v", i, cut, l, n)
			}
			spoil(l, n)
			scribble(wholeFirst)
			l, n = s.Feed(second)
			if !bytes.Equal(wholeSecond, keep) {
				t.Errorf("%d, %d: changed", i, cut)
			}
			scribble(wholeSecond)
			behind := notice
			if before.Code != 0 {
				behind = api.Notice{}
			}
			if !same(l, want[len(ahead):]) || !alike(n, behind) {
				t.Errorf("%d, %d: %v, %v", i, cut, l, n)
			}
		}
	}
}

// The bytes that were fed first remain as they were when more is fed.
func TestMemoryFirst(t *testing.T) {
	for cut := range 28 {
		s := frame.New()
		b, whole := roomy(message(2, 9)[:cut])
		keep := bytes.Clone(whole)
		s.Feed(b)
		l, n := s.Feed(join(message(2, 9)[cut:], message(2, 40)[:30]))
		spoil(l, n)
		s.Feed(message(2, 40)[30:])
		s.Reset()
		s.Feed(long(40))
		if !bytes.Equal(whole, keep) {
			t.Errorf("%d: changed", cut)
		}
	}
}

// What was answered remains as it was when more is fed, and when the stream is reset.
func TestMemoryAnswer(t *testing.T) {
	for cut := range 28 {
		s := frame.New()
		l, n := s.Feed(join(message(3, 5), message(2, 9), message(2, 9)[:cut]))
		s.Feed(message(2, 9)[cut:])
		s.Feed(join(message(2, 40), message(3, 7)[:20]))
		s.Reset()
		s.Feed(message(2, 4077))
		if !same(l, []frame.Frame{item(3, 5), item(2, 9)}) || !alike(n, api.Notice{}) {
			t.Errorf("%d: %v, %v", cut, l, n)
		}
	}
	s := frame.New()
	_, n := s.Feed(head(4097, 4))
	s.Reset()
	_, m := s.Feed(head(18, 4))
	s.Reset()
	s.Feed(message(4, 0))
	if !alike(n, fault(2, 16, 1)) || !alike(m, fault(2, 0, 18)) {
		t.Error(n, m)
	}
}

// No two frames of one answer share memory, nor does one reach what waits.
func TestMemoryFrames(t *testing.T) {
	all := join(message(3, 5), message(2, 9), message(1, 10), message(2, 30)[:40])
	for i := range 3 {
		s := frame.New()
		l, _ := s.Feed(all)
		m, _, _ := frame.Split(all)
		for _, x := range [][]frame.Frame{l, m} {
			scribble(append(x[i].Body, 0xbb, 0xbb, 0xbb, 0xbb))
			scribble(x[i].Body)
			for j, f := range []frame.Frame{item(3, 5), item(2, 9), item(1, 10)} {
				if i != j && !same(x[j:j+1], []frame.Frame{f}) {
					t.Errorf("%d, %d: %v", i, j, x[j])
				}
			}
		}
		feeds(t, s, message(2, 30)[40:], item(2, 30))
	}
}

// Two streams that are fed the same memory know nothing of each other.
func TestMemoryStreams(t *testing.T) {
	s, o := frame.New(), frame.New()
	b := message(2, 30)
	s.Feed(b[:20])
	o.Feed(b[:20])
	s.Feed([]byte{7, 7, 7, 7, 7, 7, 7, 7, 7})
	feeds(t, o, b[20:], item(2, 30))
	waits(t, s, 29)
	s.Reset()
	waits(t, o, 0)
	feeds(t, s, b, item(2, 30))
}
