package message_test

import (
	"bytes"
	"slices"
	"testing"

	"confluence/api"
	"confluence/frame"
	"confluence/message"
	"confluence/notice"
	"confluence/open"
	"confluence/update"
)

// join puts lists one behind the other.
func join(lists ...[]byte) []byte {
	return bytes.Join(lists, nil)
}

// marker is what each message begins with.
func marker() []byte {
	return []byte{255, 255, 255, 255, 255, 255, 255, 255, 255, 255, 255, 255, 255, 255, 255, 255}
}

// raw is the bytes of a message of any type, whatever its body is.
func raw(kind int, body ...byte) []byte {
	size := 19 + len(body)
	return join(marker(), []byte{byte(size >> 8), byte(size), byte(kind)}, body)
}

// body is the bytes of a good message's part: what they are is the layers' that have them.
func body(m api.Message) []byte {
	var b []byte
	switch m.Type {
	case 1:
		b, _ = open.Encode(m.Open)
	case 2:
		b, _ = update.Encode(m.Update)
	case 3:
		b, _ = notice.Encode(m.Notice)
	}
	return b
}

// plain is the bytes of a good message.
func plain(m api.Message) []byte {
	return raw(m.Type, body(m)...)
}

// writes reports a message that is not written as its bytes.
func writes(t *testing.T, m api.Message, want []byte) {
	t.Helper()
	if b, e := message.Encode(m); e != api.OK || !bytes.Equal(b, want) {
		t.Errorf("%s: % x, %v, not % x", brief(tell(m)), b, e, want)
	}
}

// refuses reports a message that is written, or refused for another reason.
func refuses(t *testing.T, m api.Message, code api.Errno) {
	t.Helper()
	if b, e := message.Encode(m); e != code || b != nil {
		t.Errorf("%s: %d bytes, %v, not %v", brief(tell(m)), len(b), e, code)
	}
}

// same tells whether a notice is as wanted.
func same(n api.Notice, code, sub int, data ...byte) bool {
	return n.Code == code && n.Sub == sub && bytes.Equal(n.Data, data)
}

// decodes reports a frame that is not read as a message.
func decodes(t *testing.T, f frame.Frame, want api.Message) {
	t.Helper()
	m, n := message.Decode(f)
	if tell(m) != tell(want) || n.Code != 0 || n.Sub != 0 || n.Data != nil {
		t.Errorf("%d, % x: %s, %v, not %s", f.Type, f.Body, brief(tell(m)), n, brief(tell(want)))
	}
}

// faults reports a frame that is not refused as wanted.
func faults(t *testing.T, f frame.Frame, code, sub int, data ...byte) {
	t.Helper()
	if m, n := message.Decode(f); tell(m) != tell(api.Message{}) || !same(n, code, sub, data...) {
		t.Errorf("%d, %d bytes: %s, %v, not %d, %d, % x", f.Type, len(f.Body), brief(tell(m)), n, code, sub, data)
	}
}

// P13.1

// Each type, byte for byte; a Type of 5 is the chapter's example.
func TestEncode(t *testing.T) {
	writes(t, api.Message{Type: 1, Open: api.Open{AS: 70000, Hold: 90, ID: 0x0a000001, Four: true}}, join(marker(), []byte{0, 37, 1, 4, 0x5b, 0xa0, 0, 90, 10, 0, 0, 1, 8, 2, 6, 65, 4, 0, 1, 0x11, 0x70}))
	writes(t, api.Message{Type: 1, Open: api.Open{AS: 1, ID: 1}}, join(marker(), []byte{0, 29, 1, 4, 0, 1, 0, 0, 0, 0, 0, 1, 0}))
	writes(t, api.Message{Type: 2}, join(marker(), []byte{0, 23, 2, 0, 0, 0, 0}))
	writes(t, api.Message{Type: 2, Update: api.Update{Gone: three()[1:2], Attrs: bare(), Here: three()[:1]}},
		join(marker(), []byte{0, 40, 2, 0, 1, 0, 0, 14, 0x40, 1, 1, 0, 0x40, 2, 0, 0x40, 3, 4, 10, 0, 0, 1, 8, 10}))
	writes(t, api.Message{Type: 3, Notice: api.Notice{Code: 6, Sub: 2}}, join(marker(), []byte{0, 21, 3, 6, 2}))
	writes(t, api.Message{Type: 3, Notice: api.Notice{Code: 2, Sub: 1, Data: []byte{0, 4}}}, join(marker(), []byte{0, 23, 3, 2, 1, 0, 4}))
	writes(t, api.Message{Type: 4}, join(marker(), []byte{0, 19, 4}))
	refuses(t, api.Message{Type: 5}, api.ErrArg)
	refuses(t, api.Message{}, api.ErrArg)
}

// Parts that are not of the type count for nothing, good or not.
func TestEncodeEvery(t *testing.T) {
	want := map[string][]byte{}
	every(func(m api.Message, good bool) {
		if !good {
			refuses(t, m, api.ErrArg)
			return
		}
		if m.Type == 2 && len(m.Update.Gone) > 100 {
			return
		}
		key := ""
		if len(m.Notice.Data) < 100 || m.Type != 3 {
			key = tell(stripped(m))
		}
		if want[key] == nil || key == "" {
			want[key] = plain(m)
		}
		writes(t, m, want[key])
	})
}

// An Update that is just short enough, and ones that are too long, with whatever other parts.
func TestEncodeLong(t *testing.T) {
	l := updates(true)
	for i, u := range l[len(l)-2:] {
		for _, m := range around(api.Message{Type: 2, Update: u}) {
			if b := plain(m); len(b) != 4096 {
				t.Fatal(i, len(b))
			}
			writes(t, m, plain(m))
		}
	}
	for _, u := range longs() {
		for _, m := range around(api.Message{Type: 2, Update: u}) {
			refuses(t, m, api.ErrLong)
		}
	}
}

// An Update that is too long is of no weight in a message of another type, and of less weight than one that is not good.
func TestEncodeOrder(t *testing.T) {
	for _, u := range append(longs(), updates(false)...) {
		for _, m := range bodies() {
			if m.Type != 2 {
				want := plain(m)
				m.Update = u
				writes(t, m, want)
			}
		}
		for _, kind := range append([]int{1, 3}, nones...) {
			refuses(t, api.Message{Type: kind, Update: u}, api.ErrArg)
		}
	}
	for _, u := range longs() {
		u.Gone = append(slices.Clone(u.Gone), at(0, 33))
		refuses(t, api.Message{Type: 2, Update: u}, api.ErrArg)
	}
}

// A notice with Data of no bytes, and with as many as fit.
func TestEncodeNotice(t *testing.T) {
	for size := range 4080 {
		m := api.Message{Type: 3, Notice: api.Notice{Code: 6, Sub: 2, Data: long(size)}}
		if size <= 4075 {
			writes(t, m, raw(3, join([]byte{6, 2}, long(size))...))
		} else {
			refuses(t, m, api.ErrArg)
		}
	}
}

// A KEEPALIVE has 19 bytes, and is the message of its type.
func TestKeep(t *testing.T) {
	b := message.Keep()
	if len(b) != 19 || !bytes.Equal(b, join(marker(), []byte{0, 19, 4})) {
		t.Errorf("% x", b)
	}
	for _, m := range around(api.Message{Type: 4}) {
		writes(t, m, b)
	}
	if l, done, n := message.Read(b); len(l) != 1 || tell(l[0]) != tell(api.Message{Type: 4}) || done != 19 || !notice.None(n) {
		t.Error(l, done, n)
	}
}

// P13.2

func TestDecode(t *testing.T) {
	for _, m := range bodies() {
		decodes(t, frame.Frame{Type: m.Type, Body: body(m)}, m)
	}
	decodes(t, frame.Frame{Type: 4}, api.Message{Type: 4})
	decodes(t, frame.Frame{Type: 4, Body: []byte{}}, api.Message{Type: 4})
	decodes(t, frame.Frame{Type: 3, Body: []byte{6, 2}}, api.Message{Type: 3, Notice: api.Notice{Code: 6, Sub: 2}})
	decodes(t, frame.Frame{Type: 2, Body: []byte{0, 2, 8, 10, 0, 0}}, api.Message{Type: 2, Update: api.Update{Gone: three()[:1]}})
	decodes(t, frame.Frame{Type: 1, Body: []byte{4, 0, 1, 0, 0, 0, 0, 0, 1, 0}}, api.Message{Type: 1, Open: api.Open{AS: 1, ID: 1}})
}

// No type but the four has messages, whatever the body is, good ones of another type among them.
func TestDecodeTypes(t *testing.T) {
	for _, kind := range nones {
		faults(t, frame.Frame{Type: kind}, 1, 3)
		for _, m := range bodies() {
			faults(t, frame.Frame{Type: kind, Body: body(m)}, 1, 3)
		}
	}
	for kind := -300; kind <= 600; kind++ {
		if kind < 1 || kind > 4 {
			faults(t, frame.Frame{Type: kind, Body: []byte{6, 2}}, 1, 3)
		}
	}
}

// A KEEPALIVE has no body, of whatever size.
func TestDecodeKeep(t *testing.T) {
	for _, size := range []int{1, 2, 4, 10, 255, 4077, 4078, 65536} {
		faults(t, frame.Frame{Type: 4, Body: long(size)}, 1, 2)
		faults(t, frame.Frame{Type: 4, Body: make([]byte, size)}, 1, 2)
	}
}

// A notice has a Code, a Sub, and no more Data than fit.
func TestDecodeNotice(t *testing.T) {
	all := append([]byte{6, 2}, long(5000)...)
	for size := range len(all) + 1 {
		f := frame.Frame{Type: 3, Body: all[:size]}
		if size < 2 || size > 4077 {
			faults(t, f, 1, 2)
		} else if m, n := message.Decode(f); !notice.None(n) || m.Type != 3 || !same(m.Notice, 6, 2, all[2:size]...) {
			t.Errorf("%d bytes: %s, %v", size, brief(tell(m)), n)
		}
	}
	for _, b := range [][]byte{nil, {}, {0}, {1}, {255}, {0, 0}, {0, 1}, {0, 255, 1}, make([]byte, 4077), make([]byte, 65536)} {
		faults(t, frame.Frame{Type: 3, Body: b}, 1, 2)
	}
}

// wrong is a body that is not one of its type, and what is told of it.
type wrong struct {
	kind int
	body []byte
	n    api.Notice
}

// wrongs are bodies of each type with the errors that there are.
func wrongs() []wrong {
	all := []wrong{
		{3, []byte{0, 0}, api.Notice{Code: 1, Sub: 2}}, {3, make([]byte, 4077), api.Notice{Code: 1, Sub: 2}}, {3, []byte{0, 6, 2}, api.Notice{Code: 1, Sub: 2}},
	}
	for _, x := range []struct {
		sub  int
		data []byte
		b    []byte
	}{
		{1, []byte{0, 4}, []byte{3, 0, 1, 0, 0, 0, 0, 0, 1, 0}},
		{2, nil, []byte{4, 0, 0, 0, 0, 0, 0, 0, 1, 0}},
		{6, nil, []byte{4, 0, 1, 0, 2, 0, 0, 0, 1, 0}},
		{3, nil, []byte{4, 0, 1, 0, 3, 0, 0, 0, 0, 0}},
		{0, nil, []byte{4, 0, 1, 0, 3, 0, 0, 0, 1, 1}},
		{0, nil, []byte{4, 0, 1, 0, 3, 0, 0, 0, 1, 0, 0}},
		{0, nil, []byte{4, 0, 1, 0, 3, 0, 0, 0, 1, 2, 2, 1}},
		{4, nil, []byte{4, 0, 1, 0, 3, 0, 0, 0, 1, 2, 1, 0}},
		{0, nil, []byte{4, 0, 1, 0, 3, 0, 0, 0, 1, 4, 2, 2, 65, 0}},
		{0, nil, []byte{4, 0, 1, 0, 3, 0, 0, 0, 1, 8, 2, 6, 65, 4, 0, 0, 0, 0}},
	} {
		all = append(all, wrong{1, x.b, api.Notice{Code: 2, Sub: x.sub, Data: x.data}})
	}
	for _, x := range []struct {
		sub  int
		data []byte
		b    []byte
	}{
		{1, nil, []byte{0, 1, 33, 0, 0}},
		{1, nil, []byte{0, 3, 8, 10, 0}},
		{1, nil, []byte{0, 0, 0, 1}},
		{1, nil, []byte{0, 0, 0, 1, 0x40}},
		{2, []byte{0x40, 9, 0}, []byte{0, 0, 0, 3, 0x40, 9, 0}},
		{3, []byte{1}, []byte{0, 0, 0, 0, 8, 10}},
		{3, []byte{2}, []byte{0, 0, 0, 4, 0x40, 1, 1, 0, 8, 10}},
		{4, []byte{0x80, 1, 1, 0}, []byte{0, 0, 0, 4, 0x80, 1, 1, 0}},
		{5, []byte{0x40, 1, 0}, []byte{0, 0, 0, 3, 0x40, 1, 0}},
		{6, []byte{0x40, 1, 1, 3}, []byte{0, 0, 0, 4, 0x40, 1, 1, 3}},
		{8, []byte{0x40, 3, 4, 0, 0, 0, 0}, []byte{0, 0, 0, 7, 0x40, 3, 4, 0, 0, 0, 0}},
		{11, nil, []byte{0, 0, 0, 5, 0x40, 2, 2, 3, 1}},
		{10, nil, []byte{0, 0, 0, 14, 0x40, 1, 1, 0, 0x40, 2, 0, 0x40, 3, 4, 10, 0, 0, 1, 33}},
	} {
		all = append(all, wrong{2, x.b, api.Notice{Code: 3, Sub: x.sub, Data: x.data}})
	}
	return all
}

// What is wrong of an Open's or an Update's body is told as the layer tells it that has them.
func TestDecodeWrong(t *testing.T) {
	for _, x := range wrongs() {
		faults(t, frame.Frame{Type: x.kind, Body: x.body}, x.n.Code, x.n.Sub, x.n.Data...)
	}
	// These are too short for a frame of a stream to have them.
	for _, b := range [][]byte{nil, {}, {4}, {4, 0, 0, 0, 0, 0, 0, 0, 0}} {
		faults(t, frame.Frame{Type: 1, Body: b}, 2, 0)
	}
	for _, b := range [][]byte{nil, {}, {0}, {0, 0}, {0, 0, 0}} {
		faults(t, frame.Frame{Type: 2, Body: b}, 3, 1)
	}
}

// Every row of a few bytes that stands for much, as a body of each type.
func TestDecodeAny(t *testing.T) {
	pool := [][]byte{nil, {0}, {4}, {0, 0}, {0, 1}, {6, 2}, {8, 10}, {0, 0, 0, 0, 1, 0}, {2, 6, 65, 4, 0, 0, 0, 7}, body(bodies()[1]), body(api.Message{Type: 2, Update: updates(true)[3]})}
	for _, a := range pool {
		for _, b := range pool {
			for _, c := range pool {
				l := join(a, b, c)
				o, n := open.Decode(l)
				agrees(t, frame.Frame{Type: 1, Body: l}, api.Message{Type: 1, Open: o}, n)
				u, n := update.Decode(l)
				agrees(t, frame.Frame{Type: 2, Body: l}, api.Message{Type: 2, Update: u}, n)
				x, ok := notice.Decode(l)
				n = api.Notice{}
				if !ok {
					n = api.Notice{Code: 1, Sub: 2}
				}
				agrees(t, frame.Frame{Type: 3, Body: l}, api.Message{Type: 3, Notice: x}, n)
			}
		}
	}
}

// agrees reports a frame that is not read as m, or not refused with n.
func agrees(t *testing.T, f frame.Frame, m api.Message, n api.Notice) {
	t.Helper()
	if n.Code == 0 {
		decodes(t, f, m)
	} else {
		faults(t, f, n.Code, n.Sub, n.Data...)
	}
}
