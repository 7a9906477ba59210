package notice_test

import (
	"bytes"
	"testing"

	"confluence/api"
	"confluence/notice"
)

// roomy is a copy of b with marked room behind it, where nothing may be written either, and the whole of its memory.
func roomy(b []byte) (list, whole []byte) {
	whole = append(bytes.Clone(b), 0xee, 0xee, 0xee, 0xee, 0xee, 0xee, 0xee, 0xee)
	return whole[:len(b)], whole
}

// scribble writes over all the memory that a list reaches.
func scribble(b []byte) {
	b = b[:cap(b)]
	for i := range b {
		b[i] = 0xbb
	}
}

// No call changes the Data that are handed in, nor the memory behind them; nor does anything that is done with what it answers.
func TestMemoryNotice(t *testing.T) {
	for name, call := range map[string]func(n api.Notice){
		"Good": func(n api.Notice) { notice.Good(n) },
		"Encode": func(n api.Notice) {
			b, _ := notice.Encode(n)
			scribble(append(b, 0xbb))
			scribble(b)
		},
		"Same": func(n api.Notice) { notice.Same(n, n); notice.Same(n, api.Notice{}); notice.Same(notice.Close(2), n) },
		"None": func(n api.Notice) { notice.None(n) },
		"Name": func(n api.Notice) { notice.Name(n) },
	} {
		for _, n := range unlike() {
			data, whole := roomy(n.Data)
			keep := bytes.Clone(whole)
			call(api.Notice{Code: n.Code, Sub: n.Sub, Data: data})
			if !bytes.Equal(whole, keep) {
				t.Errorf("%s of %d, %d: %d bytes changed", name, n.Code, n.Sub, len(n.Data))
			}
		}
	}
}

// What is written does not change with the Data that were handed in, nor with the next answer.
func TestMemoryEncode(t *testing.T) {
	every(func(n api.Notice, good bool) {
		if !good || len(n.Data) > 300 {
			return
		}
		data, whole := roomy(n.Data)
		n.Data = data
		want := plain(n)
		b, _ := notice.Encode(n)
		next, _ := notice.Encode(n)
		scribble(append(next, 0xbb, 0xbb))
		scribble(next)
		scribble(whole)
		if !bytes.Equal(b, want) {
			t.Errorf("% x, not % x", b, want)
		}
	})
}

// Bytes that are handed in are not changed, nor is what stands behind them read or changed; and what is answered is neither they nor the next answer.
func TestMemoryDecode(t *testing.T) {
	for _, x := range [][]byte{nil, {}, {0}, {6}, {6, 2}, {0, 2, 3}, {6, 2, 3}, {1, 2, 3, 4, 5, 6, 7, 8, 9}, append([]byte{6, 2}, long(4075)...), append([]byte{6, 2}, long(4076)...)} {
		b, whole := roomy(x)
		keep := bytes.Clone(whole)
		n, ok := notice.Decode(b)
		next, _ := notice.Decode(b)
		scribble(append(next.Data, 0xbb, 0xbb))
		scribble(next.Data)
		if !bytes.Equal(whole, keep) {
			t.Errorf("%d bytes: changed", len(x))
		}
		scribble(whole)
		if ok != (len(x) >= 2 && len(x) <= 4077 && x[0] != 0) || ok && !bytes.Equal(plain(n), x) {
			t.Errorf("%d bytes: %v, %v", len(x), n, ok)
		}
	}
}

// Notices that are made anew know nothing of each other.
func TestMemoryClose(t *testing.T) {
	a, b := notice.Close(2), notice.Close(2)
	scribble(append(a.Data, 0xbb))
	scribble(a.Data)
	if len(b.Data) != 0 || !bytes.Equal(append(b.Data, 1), []byte{1}) || !notice.Same(notice.Close(2), api.Notice{Code: 6, Sub: 2}) {
		t.Error(b)
	}
}
