package message_test

import (
	"slices"
	"testing"

	"confluence/api"
	"confluence/frame"
	"confluence/message"
	"confluence/notice"
)

// tells are messages as a text.
func tells(l []api.Message) string {
	s := ""
	for _, m := range l {
		s += tell(m) + "\n"
	}
	return s
}

// reads reports bytes of which not just these messages are read, with so many bytes, and this notice.
func reads(t *testing.T, b []byte, want []api.Message, size int, notice api.Notice) {
	t.Helper()
	l, done, n := message.Read(b)
	if len(l) != len(want) || tells(l) != tells(want) || done != size || !same(n, notice.Code, notice.Sub, notice.Data...) {
		t.Errorf("%d bytes: %d, %d, %v, not %d, %d, %v: %s", len(b), len(l), done, n, len(want), size, notice, brief(tells(l)))
	}
}

// few are good messages of each type, short ones.
func few() []api.Message {
	return []api.Message{
		{Type: 4}, {Type: 1, Open: opens(true)[0]}, {Type: 1, Open: opens(true)[1]}, {Type: 2}, {Type: 2, Update: updates(true)[3]}, {Type: 3, Notice: notices(true)[0]}, {Type: 3, Notice: notices(true)[3]},
	}
}

// bytesOf is the bytes of good messages.
func bytesOf(l ...api.Message) []byte {
	var b []byte
	for _, m := range l {
		b = append(b, plain(m)...)
	}
	return b
}

// P13.2

func TestReadNothing(t *testing.T) {
	reads(t, nil, nil, 0, api.Notice{})
	reads(t, []byte{}, nil, 0, api.Notice{})
	l, done, n := message.Read(nil)
	if len(l) != 0 || done != 0 || n.Code != 0 || n.Sub != 0 || n.Data != nil {
		t.Error(l, done, n)
	}
}

// Each message alone, and every row of three with the begin of another one, of every size, behind it.
func TestRead(t *testing.T) {
	for _, m := range bodies() {
		b := plain(m)
		reads(t, b, []api.Message{m}, len(b), api.Notice{})
	}
	all := few()
	for _, a := range all {
		for _, b := range all {
			for _, c := range all {
				row := []api.Message{a, b, c}
				whole := bytesOf(row...)
				reads(t, whole, row, len(whole), api.Notice{})
			}
		}
	}
	for _, m := range all {
		whole := bytesOf(all...)
		next := plain(m)
		for cut := range next {
			reads(t, join(whole, next[:cut]), all, len(whole), api.Notice{})
			reads(t, next[:cut], nil, 0, api.Notice{})
		}
	}
}

// Bytes that are cut at every place: those messages are read that are whole.
func TestReadCut(t *testing.T) {
	all := append(few(), few()...)
	whole := bytesOf(all...)
	count, done := 0, 0
	for cut := range len(whole) + 1 {
		if count < len(all) && cut == done+len(plain(all[count])) {
			done = cut
			count++
		}
		reads(t, whole[:cut], all[:count], done, api.Notice{})
	}
	if count != len(all) {
		t.Error(count)
	}
}

// Long messages, and many of them.
func TestReadMany(t *testing.T) {
	var all []api.Message
	for range 40 {
		all = append(all, bodies()...)
	}
	b := bytesOf(all...)
	l, done, n := message.Read(join(b, message.Keep()[:18]))
	if len(l) != len(all) || done != len(b) || !notice.None(n) {
		t.Fatal(len(l), done, n)
	}
	for i, m := range l {
		if !message.Same(m, all[i]) {
			t.Errorf("%d: %s", i, brief(tell(m)))
		}
	}
}

// heads are heads that may not be, and what is told of them.
func heads() map[string]wrong {
	mark := raw(4)
	mark[7] = 0
	short, long, kind, keep := raw(4), raw(4), raw(9), raw(4, 1)
	short[17], long[16] = 18, 16
	return map[string]wrong{
		"marker": {0, mark, api.Notice{Code: 1, Sub: 1}}, "short": {0, short, api.Notice{Code: 1, Sub: 2, Data: []byte{0, 18}}}, "long": {0, long, api.Notice{Code: 1, Sub: 2, Data: []byte{16, 19}}},
		"type": {0, kind, api.Notice{Code: 1, Sub: 3, Data: []byte{9}}}, "zero": {0, raw(0), api.Notice{Code: 1, Sub: 3, Data: []byte{0}}}, "keep": {0, keep, api.Notice{Code: 1, Sub: 2, Data: []byte{0, 20}}},
		"open": {0, raw(1, 4, 0, 1), api.Notice{Code: 1, Sub: 2, Data: []byte{0, 22}}}, "update": {0, raw(2, 0, 0, 0), api.Notice{Code: 1, Sub: 2, Data: []byte{0, 22}}}, "notice": {0, raw(3, 6), api.Notice{Code: 1, Sub: 2, Data: []byte{0, 20}}},
	}
}

// ahead are rows of good messages: none, one, and more of unlike types.
func ahead() [][]api.Message {
	all := few()
	return [][]api.Message{nil, all[:1], all[4:5], all[1:6], all}
}

// behind are what stands behind an error: nothing, a message, the begin of one, other errors, and what is none of these.
func behind() [][]byte {
	l := [][]byte{nil, bytesOf(few()...), message.Keep(), message.Keep()[:18], plain(few()[4])[:30], {0}, long(40), raw(3, 0, 0), raw(2, 0, 1, 33, 0, 0), raw(1, make([]byte, 10)...)}
	for _, x := range heads() {
		l = append(l, x.body)
	}
	return l
}

// A body that is wrong, in the first message and behind others, whatever stands behind it: a head that may not be among it.
func TestReadWrong(t *testing.T) {
	for _, row := range ahead() {
		b := bytesOf(row...)
		for _, x := range wrongs() {
			for _, rest := range behind() {
				reads(t, join(b, raw(x.kind, x.body...), rest), row, len(b), x.n)
			}
		}
	}
}

// A body that is wrong is told of as soon as it is there, and not ahead of that.
func TestReadWrongCut(t *testing.T) {
	for _, row := range ahead() {
		b := bytesOf(row...)
		for _, x := range wrongs() {
			whole := raw(x.kind, x.body...)
			for cut := 1; cut < len(whole); cut += 1 + cut/100*100 {
				reads(t, join(b, whole[:cut]), row, len(b), api.Notice{})
			}
		}
	}
}

// A head that may not be, in the first message and behind others, whatever stands behind it; and one that has not all its bytes is none.
func TestReadHead(t *testing.T) {
	for _, row := range ahead() {
		b := bytesOf(row...)
		for name, x := range heads() {
			for _, rest := range behind() {
				reads(t, join(b, x.body[:19], rest), row, len(b), x.n)
			}
			for cut := range 19 {
				reads(t, join(b, x.body[:cut]), row, len(b), api.Notice{})
			}
			if t.Failed() {
				t.Fatal(name)
			}
		}
	}
}

// Of two bodies that are wrong the first one counts, with what is ahead of it.
func TestReadFirst(t *testing.T) {
	all := wrongs()
	for _, row := range ahead()[1:4] {
		b := bytesOf(row...)
		for _, x := range all {
			for _, y := range all {
				reads(t, join(b, raw(x.kind, x.body...), b, raw(y.kind, y.body...), b), row, len(b), x.n)
			}
		}
	}
}

// P13.3: what is written is read again, alone and in rows, without the parts that are of no type's use.
func TestRound(t *testing.T) {
	var all, want []api.Message
	var b []byte
	for _, x := range append(few(), bodies()...) {
		for _, m := range around(x) {
			one, e := message.Encode(m)
			l, done, n := message.Read(one)
			if e != api.OK || len(l) != 1 || done != len(one) || !notice.None(n) || !message.Same(l[0], m) || tell(l[0]) != tell(x) {
				t.Fatalf("%s: %v, %d, %v", brief(tell(m)), e, done, n)
			}
			all, want, b = append(all, m), append(want, x), append(b, one...)
		}
	}
	l, done, n := message.Read(b)
	if !slices.EqualFunc(l, all, message.Same) || done != len(b) || !notice.None(n) || tells(l) != tells(want) {
		t.Errorf("%d, %d, %v", len(l), done, n)
	}
}

// P13.3: what is cut from the front by the number of bytes leaves the rest to be read as well.
func TestRoundRest(t *testing.T) {
	all := slices.Concat(few(), few(), few())
	b := bytesOf(all...)
	for _, size := range []int{19, 40, 41, 64, 100, 1000} {
		var got []api.Message
		var waits []byte
		for part := range slices.Chunk(b, size) {
			waits = append(waits, part...)
			l, done, n := message.Read(waits)
			if !notice.None(n) {
				t.Fatal(n)
			}
			got = append(got, l...)
			waits = waits[done:]
		}
		if len(waits) != 0 || !slices.EqualFunc(got, all, message.Same) {
			t.Errorf("%d: %d, %d", size, len(waits), len(got))
		}
	}
}

// Any bytes: what is read is what the frames hold, is good, and is read again when it is written.
func FuzzRead(f *testing.F) {
	for _, b := range [][]byte{nil, bytesOf(few()...), message.Keep()[:18], bytesOf(bodies()...)} {
		f.Add(b)
	}
	for _, x := range wrongs() {
		f.Add(join(message.Keep(), raw(x.kind, x.body...), message.Keep()))
	}
	for _, x := range heads() {
		f.Add(join(message.Keep(), x.body))
	}
	f.Fuzz(func(t *testing.T, b []byte) {
		l, done, n := message.Read(b)
		frames, size, last := frame.Split(b)
		left := 0
		for i, m := range frames {
			if i >= len(l) {
				// The frame behind the last message is one that cannot be read.
				faults(t, m, n.Code, n.Sub, n.Data...)
				last = n
				break
			}
			decodes(t, m, l[i])
			left += 19 + len(m.Body)
		}
		if len(l) > len(frames) || done != left || len(l) == len(frames) && done != size || !notice.Same(n, last) {
			t.Fatalf("% x: %d, %d, %v", b, len(l), done, n)
		}
		var again []byte
		for _, m := range l {
			one, e := message.Encode(m)
			if e != api.OK || !message.Good(m) || len(one) > 4096 {
				t.Fatalf("%s: %v", brief(tell(m)), e)
			}
			again = append(again, one...)
		}
		next, size, n := message.Read(again)
		if !slices.EqualFunc(next, l, message.Same) || size != len(again) || !notice.None(n) {
			t.Errorf("% x: %d, %d, %v", again, len(next), size, n)
		}
	})
}
