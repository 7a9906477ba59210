package open_test

import (
	"bytes"
	"testing"

	"confluence/api"
	"confluence/open"
)

// mark fills the memory behind a list, where nothing may be written either.
const mark = 0xee

// roomy is a copy of b with room behind it, and the whole of its memory.
func roomy(b []byte) (list, whole []byte) {
	whole = append(bytes.Clone(b), mark, mark, mark, mark, mark, mark, mark, mark)
	return whole[:len(b)], whole
}

// scribble writes over all the memory that a list reaches.
func scribble(b []byte) {
	b = b[:cap(b)]
	for i := range b {
		b[i] = 0xbb
	}
}

// given are bytes to be handed in: of every sort of Open, right ones and wrong ones.
func given() [][]byte {
	all := [][]byte{nil, {}, head(0), head(0)[:9], head(8), {3, 0, 0, 0, 1, 0, 0, 0, 0, 9}, {4, 0, 0, 0, 1, 0, 0, 0, 0, 9}, {4, 1, 1, 0, 1, 0, 0, 0, 0, 9}, {4, 1, 1, 0, 3, 0, 0, 0, 0, 9}}
	for _, x := range pool() {
		all = append(all, with(x), with(item(2, able(9)...), x))
	}
	return all
}

// Bytes that are handed in are not changed, nor is what stands behind them read or changed; and what is answered is neither they nor the next answer.
func TestMemoryDecode(t *testing.T) {
	for _, x := range given() {
		b, whole := roomy(x)
		keep := bytes.Clone(whole)
		wantO, want := plainDecode(x)
		o, n := open.Decode(b)
		_, next := open.Decode(b)
		scribble(next.Data)
		_ = append(next.Data, 0xbb, 0xbb)
		if !bytes.Equal(whole, keep) {
			t.Errorf("% x: changed to % x", x, whole)
		}
		scribble(whole)
		if o != wantO || !same(n, want.Code, want.Sub, want.Data...) {
			t.Errorf("% x: %+v, %v", x, o, n)
		}
	}
}

// What is answered for an Open is the caller's: writing over it does not change the next answer, nor one that was given ahead of it.
func TestMemoryAnswers(t *testing.T) {
	for _, o := range []api.Open{fourly(9), fourly(65536), plainly} {
		first, _ := open.Encode(o)
		second, _ := open.Encode(o)
		scribble(second)
		third, _ := open.Encode(o)
		if !bytes.Equal(first, plain(o)) || !bytes.Equal(third, plain(o)) {
			t.Errorf("%+v: % x, % x", o, first, third)
		}
	}
	want := []byte{0x41, 4, 0, 0, 1, 44}
	first := open.Judge(plainly, 300, 1)
	scribble(open.Judge(plainly, 300, 1).Data)
	third := open.Judge(plainly, 300, 1)
	if !same(first, 2, 7, want...) || !same(third, 2, 7, want...) {
		t.Errorf("%v, %v", first, third)
	}
}
