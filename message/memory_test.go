package message_test

import (
	"bytes"
	"slices"
	"testing"

	"confluence/api"
	"confluence/frame"
	"confluence/message"
)

// roomy is a copy of a list with marked room behind it, where nothing may be written either.
func roomy[T any](l []T, x T) []T {
	return append(slices.Clone(l), x, x, x, x, x)[:len(l)]
}

// copied is a copy of a message with room behind all its lists.
func copied(m api.Message) api.Message {
	mark := at(0xeeeeeeee, 32)
	u := &m.Update
	u.Gone, u.Here = roomy(u.Gone, mark), roomy(u.Here, mark)
	u.Attrs.Comms = roomy(u.Attrs.Comms, 0xee)
	u.Attrs.Path = roomy(u.Attrs.Path, api.Seg{Kind: 0xee, AS: []uint32{0xee}})
	for i, s := range u.Attrs.Path {
		u.Attrs.Path[i].AS = roomy(s.AS, 0xee)
	}
	m.Notice.Data = roomy(m.Notice.Data, 0xee)
	return m
}

// reach is all the memory that a message reaches, the room behind its lists too, as a text.
func reach(m api.Message) string {
	u := &m.Update
	u.Gone, u.Here = u.Gone[:cap(u.Gone)], u.Here[:cap(u.Here)]
	u.Attrs.Comms = u.Attrs.Comms[:cap(u.Attrs.Comms)]
	u.Attrs.Path = slices.Clone(u.Attrs.Path[:cap(u.Attrs.Path)])
	for i, s := range u.Attrs.Path {
		u.Attrs.Path[i].AS = s.AS[:cap(s.AS)]
	}
	m.Notice.Data = m.Notice.Data[:cap(m.Notice.Data)]
	return tell(m)
}

// scribble writes over all the memory that a list reaches.
func scribble[T any](l []T, x T) {
	l = l[:cap(l)]
	for i := range l {
		l[i] = x
	}
}

// smear writes over a list, and behind it.
func smear[T any](l []T, x T) {
	scribble(append(l, x), x)
	scribble(l, x)
}

// lists calls with each list of a message by its name, so that it is written over, and with what is in it left out of the message.
func lists(m *api.Message) map[string]func() {
	u := &m.Update
	all := map[string]func(){
		"Gone":  func() { smear(u.Gone, at(7, -7)); u.Gone = nil },
		"Here":  func() { smear(u.Here, at(7, -7)); u.Here = nil },
		"Comms": func() { smear(u.Attrs.Comms, 0xbad); u.Attrs.Comms = nil },
		"Path":  func() { smear(u.Attrs.Path, api.Seg{Kind: 0xbad}); u.Attrs.Path = nil },
		"Data":  func() { smear(m.Notice.Data, 0xbb); m.Notice.Data = nil },
	}
	if len(u.Attrs.Path) > 0 {
		all["first"] = func() { smear(u.Attrs.Path[0].AS, 0xbad); u.Attrs.Path[0].AS = nil }
		last := len(u.Attrs.Path) - 1
		all["last"] = func() { smear(u.Attrs.Path[last].AS, 0xbad); u.Attrs.Path[last].AS = nil }
	}
	return all
}

// blot writes over all the memory that a message reaches.
func blot(m api.Message) {
	for _, s := range m.Update.Attrs.Path {
		smear(s.AS, 0xbad)
	}
	for name, spoil := range lists(&m) {
		if name != "first" && name != "last" {
			spoil()
		}
	}
}

// given are messages to be handed in, good ones and others, with parts of all types.
func given() []api.Message {
	var all []api.Message
	for _, x := range unlike() {
		if len(x.Update.Gone) < 100 && len(x.Notice.Data) < 100 {
			all = append(all, around(x)...)
		}
	}
	for _, kind := range nones {
		all = append(all, around(api.Message{Type: kind})...)
	}
	return all
}

// No call changes a message that is handed in, nor the memory behind its lists; nor does anything that is done with what it answers.
func TestMemoryMessage(t *testing.T) {
	for name, call := range map[string]func(m api.Message){
		"Good": func(m api.Message) { message.Good(m) },
		"Only": func(m api.Message) { blot(message.Only(m)) },
		"Same": func(m api.Message) {
			message.Same(m, m)
			message.Same(m, api.Message{})
			message.Same(api.Message{Type: 2}, m)
		},
		"Encode": func(m api.Message) { b, _ := message.Encode(m); smear(b, 0xbb) },
	} {
		for _, x := range given() {
			m := copied(x)
			keep := reach(m)
			call(m)
			if reach(m) != keep {
				t.Errorf("%s of %s", name, tell(x))
			}
		}
	}
}

// What Only answers does not change with the message that was handed in, nor with the next answer.
func TestMemoryOnly(t *testing.T) {
	for _, x := range given() {
		m := copied(x)
		only := message.Only(m)
		blot(message.Only(m))
		blot(m)
		if got, want := tell(only), tell(stripped(x)); got != want {
			t.Errorf("%s: %s", want, got)
		}
	}
}

// No list of an answer reaches the memory of another one, not even by its room.
func TestMemoryApart(t *testing.T) {
	answers := map[string]func(m api.Message) api.Message{
		"Only": message.Only,
		"Decode": func(m api.Message) api.Message {
			m, _ = message.Decode(frame.Frame{Type: m.Type, Body: body(m)})
			return m
		},
		"Read": func(m api.Message) api.Message { l, _, _ := message.Read(plain(m)); return l[0] },
	}
	for name, answer := range answers {
		for _, x := range []api.Message{{Type: 2, Update: updates(true)[3]}, {Type: 2, Update: updates(true)[1]}, {Type: 3, Notice: notices(true)[3]}} {
			for list := range lists(&x) {
				got, want := answer(x), copied(x)
				lists(&got)[list]()
				lists(&want)[list]()
				if tell(got) != tell(want) {
					t.Errorf("%s, %s: %s, not %s", name, list, tell(got), tell(want))
				}
			}
		}
	}
}

// What is written does not change with the message that was handed in, nor with the next answer.
func TestMemoryEncode(t *testing.T) {
	for _, x := range given() {
		m := copied(x)
		b, _ := message.Encode(m)
		want := bytes.Clone(b)
		next, _ := message.Encode(m)
		smear(next, 0xbb)
		blot(m)
		if !bytes.Equal(b, want) {
			t.Errorf("%s: % x", tell(x), b)
		}
	}
}

// A KEEPALIVE is as it is, whatever was done with the ones before it.
func TestMemoryKeep(t *testing.T) {
	a, b := message.Keep(), message.Keep()
	smear(a, 0xbb)
	if !bytes.Equal(b, raw(4)) || !bytes.Equal(message.Keep(), raw(4)) {
		t.Errorf("% x", b)
	}
	smear(b, 0xbb)
	writes(t, api.Message{Type: 4}, raw(4))
	reads(t, raw(4), []api.Message{{Type: 4}}, 19, api.Notice{})
}

// A body that is handed in is not changed, nor is what stands behind it read or changed; and what is answered is neither it nor the next answer.
func TestMemoryDecode(t *testing.T) {
	all := wrongs()
	for _, m := range few() {
		all = append(all, wrong{kind: m.Type, body: body(m)})
	}
	for _, x := range all {
		b := roomy(x.body, 0)
		keep := bytes.Clone(b[:cap(b)])
		want, _ := message.Decode(frame.Frame{Type: x.kind, Body: bytes.Clone(x.body)})
		m, n := message.Decode(frame.Frame{Type: x.kind, Body: b})
		again, other := message.Decode(frame.Frame{Type: x.kind, Body: b})
		blot(again)
		smear(other.Data, 0xbb)
		if !bytes.Equal(b[:cap(b)], keep) {
			t.Errorf("%d, % x: % x", x.kind, x.body, b[:cap(b)])
		}
		scribble(b, 0xbb)
		if tell(m) != tell(want) || !same(n, x.n.Code, x.n.Sub, x.n.Data...) {
			t.Errorf("%d, % x: %s, %v", x.kind, x.body, tell(m), n)
		}
	}
}

// Bytes that are read are not changed, nor is what stands behind them read or changed; and what is answered is neither they nor the next answer.
func TestMemoryRead(t *testing.T) {
	type row struct {
		b []byte
		n api.Notice
	}
	all := []row{{}, {b: message.Keep()[:18]}}
	for _, x := range wrongs() {
		all = append(all, row{raw(x.kind, x.body...), x.n})
	}
	for _, x := range heads() {
		all = append(all, row{x.body, x.n})
	}
	want := few()
	for _, x := range all {
		ahead := bytesOf(want...)
		whole := join(ahead, x.b)
		// Behind the bytes stands what would be the rest of a message.
		b := append(bytes.Clone(whole), 4, 4, 4, 4)[:len(whole)]
		keep := bytes.Clone(b[:cap(b)])
		l, done, n := message.Read(b)
		again, _, other := message.Read(b)
		for _, m := range again {
			blot(m)
		}
		smear(again, api.Message{Type: 99})
		smear(other.Data, 0xbb)
		if !bytes.Equal(b[:cap(b)], keep) {
			t.Errorf("% x: changed", x.b)
		}
		scribble(b, 0xbb)
		if tells(l) != tells(want) || done != len(ahead) || !same(n, x.n.Code, x.n.Sub, x.n.Data...) {
			t.Errorf("% x: %d, %d, %v", x.b, len(l), done, n)
		}
	}
}

// No two messages of one answer share memory.
func TestMemoryMessages(t *testing.T) {
	all := slices.Concat(few(), few())
	for i := range all {
		l, _, _ := message.Read(bytesOf(all...))
		blot(l[i])
		for j, m := range l {
			if i != j && tell(m) != tell(all[j]) {
				t.Errorf("%d, %d: %s", i, j, tell(m))
			}
		}
	}
}
