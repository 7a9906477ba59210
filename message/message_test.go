package message_test

import (
	"fmt"
	"math"
	"slices"
	"testing"

	"confluence/api"
	"confluence/message"
)

// at is a prefix, of whatever length.
func at(addr uint32, n int) api.Prefix { return api.Prefix{Addr: addr, Len: n} }

// three are prefixes of 2, 1 and 5 bytes.
func three() []api.Prefix {
	return []api.Prefix{at(0x0a000000, 8), {}, at(0xffffffff, 32)}
}

// zeros are n prefixes that have n bytes together.
func zeros(n int) []api.Prefix { return make([]api.Prefix, n) }

// full is attributes of all eight types, each with something in it.
func full() api.Attrs {
	return api.Attrs{
		Has: 0x1fe, Origin: 1, Path: []api.Seg{{Kind: api.Sequence, AS: []uint32{7, 8}}, {Kind: api.Set, AS: []uint32{3, 4}}}, Hop: 0x0a000001, Med: 5, Pref: 100,
		AggAS: 65000, AggID: 0xc0000201, Comms: []uint32{0, 0x00010002},
	}
}

// bare is attributes of the three types that there must be: they have 14 bytes.
func bare() api.Attrs {
	return api.Attrs{Has: 14, Hop: 0x0a000001}
}

// long is n bytes that are not all alike.
func long(n int) []byte {
	b := make([]byte, n)
	for i := range b {
		b[i] = byte(i*7 + i/256)
	}
	return b
}

// opens are Opens that are good, and such as are not, for one reason each.
func opens(good bool) []api.Open {
	if good {
		return []api.Open{
			{AS: 1, ID: 1, Four: true}, {AS: 65535, Hold: 3, ID: math.MaxUint32}, {AS: 65536, Hold: 65535, ID: 0x0a000001, Four: true}, {AS: math.MaxUint32, Hold: 90, ID: 2, Four: true},
		}
	}
	return []api.Open{
		{}, {ID: 1, Four: true}, {AS: 1, Four: true}, {AS: 65536, ID: 1}, {AS: 1, Hold: 1, ID: 1}, {AS: 1, Hold: 2, ID: 1, Four: true}, {AS: 1, Hold: -1, ID: 1}, {AS: 1, Hold: 65536, ID: 1, Four: true},
	}
}

// updates are Updates that are good and short enough, the last two just so, and such as are not good, for one reason each, some of them too long as well.
func updates(good bool) []api.Update {
	l := three()
	if good {
		return []api.Update{
			{}, {Gone: l}, {Attrs: bare(), Here: l}, {Gone: l[1:], Attrs: full(), Here: l[:2]},
			{Gone: zeros(4073)}, {Gone: zeros(4000), Attrs: bare(), Here: zeros(59)},
		}
	}
	lacking := bare()
	lacking.Has, lacking.Hop = 6, 0
	wrong := full()
	wrong.Origin = 3
	return []api.Update{
		{Gone: []api.Prefix{at(1, 0)}}, {Gone: l, Attrs: full(), Here: []api.Prefix{l[0], at(0, 33)}}, {Attrs: bare()}, {Here: l}, {Attrs: lacking, Here: l}, {Attrs: wrong, Here: l},
		{Gone: append(zeros(4073), at(0, -1))}, {Attrs: bare(), Here: append(zeros(5000), at(1, 31))}, {Gone: zeros(5000), Attrs: lacking, Here: l}, {Gone: zeros(5000), Attrs: full()},
	}
}

// longs are Updates that are good and too long: the first two have one byte too many.
func longs() []api.Update {
	return []api.Update{
		{Gone: zeros(4074)}, {Gone: zeros(4000), Attrs: bare(), Here: zeros(60)}, {Attrs: full(), Here: zeros(4073)},
		{Gone: zeros(65535)}, {Gone: zeros(65536)}, {Attrs: bare(), Here: zeros(65540)},
	}
}

// notices are notices that are good, and such as are not, for one reason each.
func notices(good bool) []api.Notice {
	if good {
		return []api.Notice{{Code: 6, Sub: 2}, {Code: 1}, {Code: 255, Sub: 255, Data: []byte{}}, {Code: 3, Sub: 6, Data: []byte{0x40, 1, 1, 3}}, {Code: 2, Sub: 1, Data: long(4075)}}
	}
	return []api.Notice{{}, {Sub: 2}, {Code: 256}, {Code: -1, Sub: 1}, {Code: 1, Sub: 256}, {Code: 1, Sub: -1}, {Code: 6, Sub: 2, Data: long(4076)}}
}

// Types that are not valid, those among them whose lowest bits are a valid one's.
var nones = []int{0, 5, 9, -1, -2, -4, 255, 256, 257, 260, 1<<16 + 2, 1<<32 + 1, 1<<32 + 4, math.MaxInt, math.MinInt, math.MinInt + 3}

// parts calls with a message of each row of parts, whatever its type is, and with which of them are good.
func parts(call func(m api.Message, good [3]bool)) {
	o, u, n := opens(true), updates(true), notices(true)
	manyO, manyU, manyN := len(o), len(u), len(n)
	o, u, n = append(o, opens(false)...), append(u, updates(false)...), append(n, notices(false)...)
	for i, open := range o {
		for j, update := range u {
			for k, notice := range n {
				call(api.Message{Open: open, Update: update, Notice: notice}, [3]bool{i < manyO, j < manyU, k < manyN})
			}
		}
	}
}

// every calls with a message of each type and each row of parts.
func every(call func(m api.Message, good bool)) {
	parts(func(m api.Message, good [3]bool) {
		for kind := 1; kind <= 4; kind++ {
			m.Type = kind
			call(m, kind == 4 || good[kind-1])
		}
		m.Type = nones[(m.Open.Hold&0xff+len(m.Update.Here)+len(m.Notice.Data))%len(nones)]
		call(m, false)
	})
}

// bodies are messages that are good, of each type, with nothing in the parts of other types: the long ones last.
func bodies() []api.Message {
	all := []api.Message{{Type: 4}}
	for _, o := range opens(true) {
		all = append(all, api.Message{Type: 1, Open: o})
	}
	for _, n := range notices(true) {
		all = append(all, api.Message{Type: 3, Notice: n})
	}
	for _, u := range updates(true) {
		all = append(all, api.Message{Type: 2, Update: u})
	}
	return all
}

// tell is a message as a text, in which lists that are nil and empty look the same: it owes nothing to what it checks.
func tell(m api.Message) string {
	return fmt.Sprintf("%+v", m)
}

// brief is a text that is not too long to be shown.
func brief(s string) string {
	if len(s) > 300 {
		return s[:300] + ".."
	}
	return s
}

// stripped is a message with nothing but its type's part.
func stripped(m api.Message) api.Message {
	if m.Type != 1 {
		m.Open = api.Open{}
	}
	if m.Type != 2 {
		m.Update = api.Update{}
	}
	if m.Type != 3 {
		m.Notice = api.Notice{}
	}
	if m.Type < 1 || m.Type > 4 {
		m.Type = 0
	}
	return m
}

// P13.1

func TestGood(t *testing.T) {
	every(func(m api.Message, good bool) {
		if message.Good(m) != good {
			t.Errorf("%s: not %v", brief(tell(m)), good)
		}
	})
	if message.Good(api.Message{}) || message.Good(api.Message{Type: 9}) || !message.Good(api.Message{Type: 4}) || !message.Good(api.Message{Type: 2}) {
		t.Error("messages of nothing")
	}
}

// A type that is not valid makes no message good, however good its parts are.
func TestGoodTypes(t *testing.T) {
	m := api.Message{Open: opens(true)[0], Update: updates(true)[3], Notice: notices(true)[0]}
	for kind := -300; kind <= 600; kind++ {
		m.Type = kind
		if good := message.Good(m); good != (kind >= 1 && kind <= 4) {
			t.Errorf("%d: %v", kind, good)
		}
	}
	for _, kind := range nones {
		m.Type = kind
		if message.Good(m) {
			t.Errorf("%d is good", kind)
		}
	}
}

// An Update that is too long is good all the same.
func TestGoodLong(t *testing.T) {
	for i, u := range longs() {
		if !message.Good(api.Message{Type: 2, Update: u}) {
			t.Errorf("%d is not good", i)
		}
	}
}

func TestOnly(t *testing.T) {
	every(func(m api.Message, _ bool) {
		// Long lists make long texts: they have a test of their own.
		if len(m.Update.Gone)+len(m.Update.Here)+len(m.Notice.Data) > 100 {
			return
		}
		if got, want := tell(message.Only(m)), tell(stripped(m)); got != want {
			t.Errorf("%s: %s", want, got)
		}
	})
	if got := tell(message.Only(api.Message{})); got != tell(api.Message{}) {
		t.Error(got)
	}
}

// A part remains as it is, however long it is, and though there is nothing good in it.
func TestOnlyWhole(t *testing.T) {
	long := api.Message{Type: 2, Update: api.Update{Gone: zeros(70000), Attrs: full(), Here: append(zeros(5000), at(0, 33))}}
	odd := api.Attrs{
		Has: -1, Origin: -7, Path: []api.Seg{{Kind: 9}, {Kind: 1, AS: []uint32{2, 1, 1}}, {}, {Kind: 2, AS: []uint32{0}}, {Kind: 2, AS: []uint32{1}}},
		Hop: math.MaxUint32, Med: 1, Pref: 2, AggAS: 3, AggID: 4, Comms: []uint32{9, 1, 9},
	}
	absent := odd
	absent.Has = 0
	for _, m := range []api.Message{
		long, {Type: 2, Update: api.Update{Attrs: odd}}, {Type: 2, Update: api.Update{Attrs: absent, Here: three()}}, {Type: 2, Update: api.Update{Gone: []api.Prefix{at(7, -7)}}},
		{Type: 3, Notice: api.Notice{Code: -1, Sub: math.MinInt, Data: make([]byte, 70000)}}, {Type: 1, Open: api.Open{Hold: math.MinInt, Four: true}},
	} {
		if got, want := tell(message.Only(m)), tell(m); got != want {
			t.Errorf("%s: %s", brief(want), brief(got))
		}
	}
}

func TestOnlyTypes(t *testing.T) {
	m := api.Message{Open: opens(true)[0], Update: updates(true)[3], Notice: notices(true)[3]}
	for _, kind := range append([]int{1, 2, 3, 4}, nones...) {
		m.Type = kind
		if got, want := tell(message.Only(m)), tell(stripped(m)); got != want {
			t.Errorf("%d: %s", kind, got)
		}
	}
}

// unlike are messages without parts of other types, no two of which are the same.
func unlike() []api.Message {
	all := []api.Message{{}, {Type: 4}}
	for _, o := range append(append(opens(true), opens(false)...), api.Open{AS: 2, ID: 1, Four: true}, api.Open{AS: 1, ID: 1}, api.Open{AS: 1, Hold: 3, ID: 1, Four: true}, api.Open{AS: 1, ID: 2, Four: true}) {
		all = append(all, api.Message{Type: 1, Open: o})
	}
	for _, n := range append(append(notices(true), notices(false)...), api.Notice{Code: 6}, api.Notice{Code: 5, Sub: 2}, api.Notice{Code: 6, Sub: 2, Data: []byte{0}}, api.Notice{Code: 6, Sub: 2, Data: []byte{0, 0}}) {
		all = append(all, api.Message{Type: 3, Notice: n})
	}
	l := three()
	for _, u := range []api.Update{
		{}, {Gone: l}, {Here: l}, {Gone: l, Here: l}, {Gone: l[:2]}, {Gone: l[1:]}, {Gone: []api.Prefix{l[1], l[0], l[2]}}, {Gone: []api.Prefix{at(0x0a000000, 9), l[1], l[2]}},
		{Attrs: full()}, {Attrs: full(), Here: l}, {Gone: l, Attrs: full()}, {Gone: l, Attrs: full(), Here: l}, {Attrs: full(), Here: []api.Prefix{l[1], l[0], l[2]}}, {Gone: zeros(4073)}, {Gone: zeros(4074)},
	} {
		all = append(all, api.Message{Type: 2, Update: u})
	}
	for _, change := range changes() {
		a := full()
		change(&a)
		all = append(all, api.Message{Type: 2, Update: api.Update{Gone: l, Attrs: a, Here: l}})
	}
	return all
}

// changes change one thing of attributes each.
func changes() []func(a *api.Attrs) {
	return []func(a *api.Attrs){
		func(a *api.Attrs) { a.Has -= 64 }, func(a *api.Attrs) { a.Has++ }, func(a *api.Attrs) { a.Origin = 2 }, func(a *api.Attrs) { a.Hop++ }, func(a *api.Attrs) { a.Med++ },
		func(a *api.Attrs) { a.Pref++ }, func(a *api.Attrs) { a.AggAS++ }, func(a *api.Attrs) { a.AggID++ }, func(a *api.Attrs) { a.Comms = a.Comms[:1] }, func(a *api.Attrs) { a.Comms[1]++ },
		func(a *api.Attrs) { slices.Reverse(a.Comms) }, func(a *api.Attrs) { a.Path = a.Path[:1] }, func(a *api.Attrs) { a.Path[0].Kind = 1 }, func(a *api.Attrs) { a.Path[1].AS[1]++ },
		func(a *api.Attrs) { slices.Reverse(a.Path[0].AS) }, func(a *api.Attrs) { slices.Reverse(a.Path) }, func(a *api.Attrs) { a.Path[1].AS = nil }, func(a *api.Attrs) { a.Path = nil },
	}
}

// around is a message among other parts than those of its type: none, some, and some more.
func around(m api.Message) []api.Message {
	all := []api.Message{m}
	for _, x := range []api.Message{
		{Open: opens(true)[0]}, {Update: updates(true)[3]}, {Notice: notices(true)[3]},
		{Open: opens(false)[4], Update: updates(false)[0], Notice: notices(false)[2]}, {Open: opens(true)[1], Update: updates(true)[2], Notice: notices(true)[0]},
	} {
		x.Type = m.Type
		switch m.Type {
		case 1:
			x.Open = m.Open
		case 2:
			x.Update = m.Update
		case 3:
			x.Notice = m.Notice
		}
		all = append(all, x)
	}
	return all
}

// Each message is the same as one of equal type and part, and as no other, whatever else they have.
func TestSame(t *testing.T) {
	var all, again [][]api.Message
	for _, m := range unlike() {
		all = append(all, around(m))
	}
	for _, m := range unlike() {
		again = append(again, around(m))
	}
	for i := range all {
		for j := range again {
			for _, a := range all[i] {
				for _, b := range again[j] {
					if same := message.Same(a, b); same != (i == j) {
						t.Errorf("%d, %d: %v: %s, %s", i, j, same, brief(tell(a)), brief(tell(b)))
					}
				}
			}
		}
	}
}

// Messages whose types are not valid are all the same, and so is the zero message: the chapter's example.
func TestSameNone(t *testing.T) {
	var all []api.Message
	for _, kind := range nones {
		all = append(all, around(api.Message{Type: kind})...)
	}
	for _, a := range all {
		if !message.Same(a, api.Message{}) || !message.Same(api.Message{}, a) {
			t.Errorf("%s and the zero message", brief(tell(a)))
		}
		for _, b := range all {
			if !message.Same(a, b) {
				t.Errorf("%s, %s", brief(tell(a)), brief(tell(b)))
			}
		}
		for kind := 1; kind <= 4; kind++ {
			b := a
			b.Type = kind
			if message.Same(a, b) || message.Same(b, a) || message.Same(api.Message{}, api.Message{Type: kind}) {
				t.Errorf("%s is of Type %d", brief(tell(a)), kind)
			}
		}
	}
}

// Lists that are nil and lists that are empty are equal, and so are those that have room behind them.
func TestSameEmpty(t *testing.T) {
	nothing := api.Message{Type: 2, Update: api.Update{Attrs: api.Attrs{Path: []api.Seg{{Kind: 1}}}}}
	empty := api.Message{Type: 2, Update: api.Update{Gone: three()[:0], Here: []api.Prefix{}, Attrs: api.Attrs{Path: []api.Seg{{Kind: 1, AS: []uint32{7}[:0]}}, Comms: []uint32{7}[:0]}}}
	if !message.Same(nothing, empty) || !message.Same(empty, nothing) {
		t.Error("Updates")
	}
	none, some := api.Message{Type: 3, Notice: api.Notice{Code: 6}}, api.Message{Type: 3, Notice: api.Notice{Code: 6, Data: long(9)[:0]}}
	if !message.Same(none, some) || !message.Same(some, none) {
		t.Error("notices")
	}
}

// Same is what Only leaves.
func TestSameOnly(t *testing.T) {
	for _, x := range unlike() {
		for _, m := range around(x) {
			if !message.Same(m, message.Only(m)) || !message.Same(message.Only(x), m) {
				t.Errorf("%s", brief(tell(m)))
			}
		}
	}
}
