package update_test

import (
	"bytes"
	"slices"
	"testing"

	"confluence/api"
	"confluence/attr"
	"confluence/update"
)

// join puts lists one behind the other.
func join(lists ...[]byte) []byte {
	return bytes.Join(lists, nil)
}

// four is the bytes of numbers.
func four(l ...uint32) []byte {
	var b []byte
	for _, n := range l {
		b = append(b, byte(n>>24), byte(n>>16), byte(n>>8), byte(n))
	}
	return b
}

// long is bytes behind their number in two bytes.
func long(lists ...[]byte) []byte {
	b := join(lists...)
	return append([]byte{byte(len(b) >> 8), byte(len(b))}, b...)
}

// item is an attribute, with a length in two bytes where one does not do.
func item(flags, kind int, value ...byte) []byte {
	if len(value) > 255 {
		return append([]byte{byte(flags + 16), byte(kind)}, long(value)...)
	}
	return append([]byte{byte(flags), byte(kind), byte(len(value))}, value...)
}

// plainAttrs is the bytes of good attributes, type by type.
func plainAttrs(a api.Attrs) []byte {
	var path, b []byte
	for _, s := range a.Path {
		path = append(append(path, byte(s.Kind), byte(len(s.AS))), four(s.AS...)...)
	}
	for kind, x := range [][]byte{
		1: item(0x40, 1, byte(a.Origin)), 2: item(0x40, 2, path...), 3: item(0x40, 3, four(a.Hop)...), 4: item(0x80, 4, four(a.Med)...),
		5: item(0x40, 5, four(a.Pref)...), 6: item(0x40, 6), 7: item(0xc0, 7, four(a.AggAS, a.AggID)...), 8: item(0xc0, 8, four(a.Comms...)...),
	} {
		if a.Has>>kind%2 == 1 {
			b = append(b, x...)
		}
	}
	return b
}

// plainPrefixes is the bytes of good prefixes.
func plainPrefixes(l []api.Prefix) []byte {
	var b []byte
	for _, p := range l {
		b = append(append(b, byte(p.Len)), four(p.Addr)[:(p.Len+7)/8]...)
	}
	return b
}

// plain is the bytes of a good Update whose lists have no more than two bytes can tell.
func plain(u api.Update) []byte {
	return join(long(plainPrefixes(u.Gone)), long(plainAttrs(u.Attrs)), plainPrefixes(u.Here))
}

// unplain reads prefixes by places in the list.
func unplain(b []byte) ([]api.Prefix, bool) {
	var l []api.Prefix
	for i := 0; i < len(b); {
		n := int(b[i])
		end := i + 1 + (n+7)/8
		if n > 32 || end > len(b) {
			return nil, false
		}
		addr := uint64(0)
		for k, x := range b[i+1 : end] {
			addr += uint64(x) << (24 - 8*k)
		}
		l = append(l, at(uint32(addr>>(32-n)<<(32-n)), n))
		i = end
	}
	return l, true
}

// plainDecode reads an Update by places in the list, each rule as the chapter tells it; what attributes are is the layer's that has them.
func plainDecode(b []byte) (api.Update, api.Notice) {
	wrong := func(sub int) (api.Update, api.Notice) {
		return api.Update{}, api.Notice{Code: 3, Sub: sub}
	}
	if len(b) < 2 || len(b) < 2+int(b[0])*256+int(b[1]) {
		return wrong(1)
	}
	mid := 2 + int(b[0])*256 + int(b[1])
	gone, ok := unplain(b[2:mid])
	if !ok {
		return wrong(1)
	}
	if len(b) < mid+2 || len(b) < mid+2+int(b[mid])*256+int(b[mid+1]) {
		return wrong(1)
	}
	end := mid + 2 + int(b[mid])*256 + int(b[mid+1])
	a, n := attr.Decode(b[mid+2 : end])
	if n.Code != 0 {
		return api.Update{}, n
	}
	if end == len(b) {
		return api.Update{Gone: gone}, n
	}
	for kind := 1; kind <= 3; kind++ {
		if a.Has>>kind%2 == 0 {
			return api.Update{}, api.Notice{Code: 3, Sub: 3, Data: []byte{byte(kind)}}
		}
	}
	here, ok := unplain(b[end:])
	if !ok {
		return wrong(10)
	}
	return api.Update{Gone: gone, Attrs: a, Here: here}, n
}

// same tells whether a notice is as wanted.
func same(n api.Notice, code, sub int, data ...byte) bool {
	return n.Code == code && n.Sub == sub && bytes.Equal(n.Data, data)
}

// writes reports a good Update that is not written as its bytes, or has another size.
func writes(t *testing.T, u api.Update, want []byte) {
	t.Helper()
	if b, e := update.Encode(u); e != api.OK || !bytes.Equal(b, want) {
		t.Errorf("%s: % x, %v, not % x", tell(u), b, e, want)
	}
	if n := update.Size(u); n != len(want) {
		t.Errorf("%s: %d bytes, not %d", tell(u), n, len(want))
	}
}

// refuses reports an Update that is written, or refused for another reason, or has another size.
func refuses(t *testing.T, u api.Update, code api.Errno, size int) {
	t.Helper()
	if b, e := update.Encode(u); e != code || b != nil {
		t.Errorf("Gone %d, Here %d: %d bytes, %v, not %v", len(u.Gone), len(u.Here), len(b), e, code)
	}
	if n := update.Size(u); n != size {
		t.Errorf("Gone %d, Here %d: %d bytes, not %d", len(u.Gone), len(u.Here), n, size)
	}
}

// decodes reports bytes that are not read as an Update.
func decodes(t *testing.T, b []byte, want api.Update) {
	t.Helper()
	u, n := update.Decode(b)
	if tell(u) != tell(want) || n.Code != 0 || n.Sub != 0 || n.Data != nil {
		t.Errorf("% x: %s, %v, not %s", b, tell(u), n, tell(want))
	}
}

// faults reports bytes that are not refused as wanted.
func faults(t *testing.T, b []byte, sub int, data ...byte) {
	t.Helper()
	if u, n := update.Decode(b); tell(u) != tell(api.Update{}) || !same(n, 3, sub, data...) {
		t.Errorf("% x: %s, %v, not %d % x", b, tell(u), n, sub, data)
	}
}

// agrees reports bytes that are not read, or not refused, as by plainDecode.
func agrees(t *testing.T, b []byte) {
	t.Helper()
	want, n := plainDecode(b)
	if n.Code == 0 {
		decodes(t, b, want)
	} else {
		faults(t, b, n.Sub, n.Data...)
	}
}

// P10.1

// Nothing at all is the chapter's example.
func TestEncodeFew(t *testing.T) {
	writes(t, api.Update{}, []byte{0, 0, 0, 0})
	writes(t, api.Update{Gone: []api.Prefix{}, Here: []api.Prefix{}}, []byte{0, 0, 0, 0})
	writes(t, api.Update{Attrs: api.Attrs{Path: []api.Seg{}, Comms: []uint32{}}}, []byte{0, 0, 0, 0})
	writes(t, api.Update{Gone: []api.Prefix{at(0x0a000000, 8), {}, at(0x0a800000, 9)}}, []byte{0, 6, 8, 10, 0, 9, 10, 128, 0, 0})
	bare := api.Attrs{Has: least, Hop: 0x0a000001}
	writes(t, api.Update{Attrs: bare, Here: []api.Prefix{at(0x0a000000, 8), {}}}, []byte{0, 0, 0, 14, 0x40, 1, 1, 0, 0x40, 2, 0, 0x40, 3, 4, 10, 0, 0, 1, 8, 10, 0})
	writes(t, api.Update{Gone: []api.Prefix{{}}, Attrs: bare, Here: []api.Prefix{{}}}, []byte{0, 1, 0, 0, 14, 0x40, 1, 1, 0, 0x40, 2, 0, 0x40, 3, 4, 10, 0, 0, 1, 0})
}

func TestEncode(t *testing.T) {
	for _, u := range goods() {
		writes(t, u, plain(u))
	}
}

func TestEncodeRefuses(t *testing.T) {
	for _, u := range bads() {
		refuses(t, u, api.ErrArg, 0)
	}
}

// near are Updates of so many bytes as a message holds and over more, one list or another having the last one.
func near(over int) []api.Update {
	a := full()
	left := 4073 - len(plainAttrs(a)) + over
	return []api.Update{
		{Gone: filler(4073 + over)},
		{Attrs: a, Here: filler(left)},
		{Gone: filler(1000), Attrs: a, Here: filler(left - 1000)},
		{Gone: filler(left - 1001), Attrs: a, Here: filler(1001)},
		{Gone: filler(left - 1), Attrs: a, Here: filler(1)},
	}
}

// nearer are those of near, and such as have hardly room for a prefix: over is 0 or 1.
func nearer(over int) []api.Update {
	return append(near(over), api.Update{Gone: filler(1 + over), Attrs: sized()[4071], Here: filler(1)}, api.Update{Attrs: sized()[4072+over], Here: filler(1)})
}

func TestEncodeMost(t *testing.T) {
	for over := -9; over <= 0; over++ {
		for i, u := range near(over) {
			if b := plain(u); len(b) != 4077+over {
				t.Fatal(i, len(b))
			}
			writes(t, u, plain(u))
		}
	}
	for i, u := range nearer(0) {
		if b := plain(u); len(b) != 4077 {
			t.Fatal(i, len(b))
		}
		writes(t, u, plain(u))
	}
	for i, u := range nearer(1) {
		if b := plain(u); len(b) != 4078 {
			t.Fatal(i, len(b))
		}
		refuses(t, u, api.ErrLong, 4078)
	}
}

// However many bytes there are, they count: two bytes do not hold the numbers of those of the last ones.
func TestEncodeLong(t *testing.T) {
	a := changed(func(a *api.Attrs) { a.Path, a.Comms = way(2000), count(1, 255) })
	size := len(plainAttrs(a))
	for _, n := range []int{4074, 5000, 65531, 65532, 65533, 65535, 65536, 65537, 65540, 131072, 131075, 400001} {
		refuses(t, api.Update{Gone: filler(n)}, api.ErrLong, 4+n)
		refuses(t, api.Update{Attrs: full(), Here: filler(n)}, api.ErrLong, 4+len(plainAttrs(full()))+n)
		refuses(t, api.Update{Gone: filler(n), Attrs: a, Here: filler(n)}, api.ErrLong, 4+size+2*n)
	}
	refuses(t, api.Update{Attrs: a, Here: []api.Prefix{{}}}, api.ErrLong, 4+size+1)
}

// What is not good is told of ahead of what is too long.
func TestEncodeOrder(t *testing.T) {
	l, p := filler(5000), at(1, 0)
	for _, u := range []api.Update{
		{Gone: append(l, p)}, {Gone: append([]api.Prefix{p}, l...)}, {Gone: []api.Prefix{p}, Attrs: full(), Here: l}, {Gone: l, Attrs: full(), Here: []api.Prefix{p}},
		{Gone: l, Attrs: full()}, {Gone: l, Attrs: some(least - hop), Here: l}, {Here: l}, {Gone: l, Here: l[:1]}, {Attrs: full(), Here: append(l, p)},
	} {
		refuses(t, u, api.ErrArg, 0)
	}
	for _, a := range wrong() {
		refuses(t, api.Update{Attrs: a, Here: l}, api.ErrArg, 0)
	}
}

// P10.2

// need is the bytes of the three attributes that there must be, and bare what they tell.
var (
	need = join(item(0x40, 1, 0), item(0x40, 2), item(0x40, 3, 10, 0, 0, 1))
	bare = api.Attrs{Has: least, Hop: 0x0a000001}
)

func TestDecode(t *testing.T) {
	decodes(t, []byte{0, 0, 0, 0}, api.Update{})
	decodes(t, []byte{0, 6, 8, 10, 0, 9, 10, 128, 0, 0}, api.Update{Gone: []api.Prefix{at(0x0a000000, 8), {}, at(0x0a800000, 9)}})
	decodes(t, join([]byte{0, 0}, long(need), []byte{8, 10, 0}), api.Update{Attrs: bare, Here: []api.Prefix{at(0x0a000000, 8), {}}})
	decodes(t, join([]byte{0, 1, 0}, long(need), []byte{0}), api.Update{Gone: []api.Prefix{{}}, Attrs: bare, Here: []api.Prefix{{}}})
	// Bits behind a length count for nothing, in either list.
	decodes(t, join(long([]byte{9, 10, 0xff}), long(need), []byte{1, 0xff}), api.Update{Gone: []api.Prefix{at(0x0a800000, 9)}, Attrs: bare, Here: []api.Prefix{at(1<<31, 1)}})
	for _, u := range goods() {
		decodes(t, plain(u), u)
	}
	// Lists are as they are, whatever is in them twice, and however many bytes there are.
	all := append(five(), five()...)
	slices.Reverse(all)
	decodes(t, plain(api.Update{Gone: all, Attrs: bare, Here: all}), api.Update{Gone: all, Attrs: bare, Here: all})
	decodes(t, plain(api.Update{Gone: filler(65535), Attrs: full(), Here: filler(100000)}), api.Update{Gone: filler(65535), Attrs: full(), Here: filler(100000)})
}

// Attributes are in their normal form, in whatever order and form they stand, and those that one need not know are skipped.
func TestDecodeAttrs(t *testing.T) {
	b := join(item(0xc0, 8, four(3, 1, 3)...), []byte{0x50, 3, 0, 4, 10, 0, 0, 1}, item(0xc0, 99, 1, 2), item(0x40, 2, join([]byte{2, 1}, four(1), []byte{2, 1}, four(2))...), item(0x40, 1, 2))
	a := api.Attrs{Has: least + comms, Origin: 2, Path: way(2), Hop: 0x0a000001, Comms: []uint32{1, 3}}
	decodes(t, join([]byte{0, 0}, long(b), []byte{8, 10}), api.Update{Attrs: a, Here: five()[:1]})
	decodes(t, join([]byte{0, 2, 8, 10}, long(b)), api.Update{Gone: five()[:1]})
}

// Without bytes left attributes are zero, whatever they were; lacking a type is no error of theirs then.
func TestDecodeDropped(t *testing.T) {
	for bits := 0; bits <= whole; bits += 2 {
		b := long(plainAttrs(some(bits)))
		decodes(t, join([]byte{0, 0}, b), api.Update{})
		decodes(t, join(long(plainPrefixes(five())), b), api.Update{Gone: five()})
	}
	decodes(t, join([]byte{0, 0}, long(item(0x80, 77, 1, 2, 3))), api.Update{})
}

// The two first bytes, the bytes of Gone, and what is no prefixes of them.
func TestDecodeGone(t *testing.T) {
	for _, b := range [][]byte{
		nil, {}, {0}, {1}, {255}, {0, 1}, {1, 0}, {0, 2, 8}, {0, 3, 8, 10}, {0, 5, 0, 0, 0, 0}, {255, 255, 0, 0, 0, 0}, {1, 0, 0, 0, 0},
		{0, 1, 33, 0, 0}, {0, 1, 255, 0, 0}, {0, 1, 8, 0, 0}, {0, 2, 9, 10}, {0, 2, 16, 10, 0, 0}, {0, 5, 33, 1, 2, 3, 4, 0, 0}, {0, 4, 32, 1, 2, 3, 0, 0}, {0, 3, 8, 10, 33, 0, 0},
		{0, 3, 33, 8, 10, 0, 0}, {0, 1, 1, 0, 0, 0}, {0, 3, 8, 10, 8, 0, 0},
	} {
		faults(t, b, 1)
	}
	// A prefix that the number of bytes cuts is none, though its bytes stand there.
	faults(t, join([]byte{0, 2}, plainPrefixes(five()[3:4]), []byte{0, 0}), 1)
	faults(t, join([]byte{0, 3, 24, 0, 0}, []byte{0, 0, 0}), 1)
}

// The next two bytes, and the bytes of the attributes.
func TestDecodeList(t *testing.T) {
	for _, head := range [][]byte{{0, 0}, {0, 1, 0}, long(plainPrefixes(five()))} {
		for _, b := range [][]byte{nil, {0}, {1}, {0, 1}, {0, 5, 0x40, 1, 1, 0}, {255, 255, 0x40, 1, 1, 0}, {1, 0}, {0, byte(len(need) + 1)}} {
			faults(t, join(head, b), 1)
		}
		faults(t, join(head, []byte{0, byte(len(need) + 1)}, need), 1)
		faults(t, join(head, []byte{1, byte(len(need))}, need, []byte{0}), 1)
	}
}

// mistake is the bytes of attributes that are wrong, and what is told of them.
type mistake struct {
	b    []byte
	sub  int
	data []byte
}

// mistakes are attributes with each error that there is.
func mistakes() []mistake {
	all := []mistake{
		{b: []byte{0x40}, sub: 1}, {b: []byte{0x40, 1, 1}, sub: 1}, {b: []byte{0x50, 1, 0}, sub: 1}, {b: join(need, item(0x40, 1, 0)), sub: 1}, {b: join(need, []byte{0}), sub: 1},
		{b: item(0x40, 2, 3, 1, 0, 0, 0, 1), sub: 11}, {b: item(0x40, 2, 2, 0), sub: 11}, {b: item(0x40, 2, 2, 1, 0, 0, 0), sub: 11},
	}
	for _, x := range []struct {
		b   []byte
		sub int
	}{
		{item(0x40, 9, 1, 2), 2}, {item(0x00, 200), 2}, {item(0x80, 1, 0), 4}, {item(0x41, 3, 10, 0, 0, 1), 4}, {item(0xe0, 4, 0, 0, 0, 1), 4}, {item(0x40, 1), 5},
		{item(0x40, 1, 0, 0), 5}, {item(0xc0, 8, 1, 2, 3), 5}, {item(0x40, 6, 1), 5}, {item(0x40, 1, 3), 6}, {item(0x40, 3, 0, 0, 0, 0), 8}, {item(0x40, 3, 224, 0, 0, 1), 8},
	} {
		all = append(all, mistake{x.b, x.sub, x.b})
	}
	return all
}

// What is wrong of attributes is told whether bytes are left or not, and whatever these are.
func TestDecodeMistakes(t *testing.T) {
	for _, x := range mistakes() {
		for _, gone := range [][]byte{nil, {0}, plainPrefixes(five())} {
			for _, here := range [][]byte{nil, {0}, {33}, plainPrefixes(five())} {
				faults(t, join(long(gone), long(x.b), here), x.sub, x.data...)
			}
		}
	}
}

// A type that is missing is told of where bytes are left: the first one, and ahead of bytes that are no prefixes.
func TestDecodeMissing(t *testing.T) {
	for bits := 0; bits <= whole; bits += 2 {
		first := byte(0)
		for kind := 3; kind >= 1; kind-- {
			if bits>>kind%2 == 0 {
				first = byte(kind)
			}
		}
		for _, gone := range [][]byte{nil, {8, 10}} {
			b := join(long(gone), long(plainAttrs(some(bits))))
			for _, here := range [][]byte{{0}, {8, 10}, {33}, {8}, {8, 10, 255}} {
				if first > 0 {
					faults(t, join(b, here), 3, first)
				}
			}
			if first == 0 {
				faults(t, join(b, []byte{33}), 10)
				if u, n := update.Decode(join(b, []byte{0})); n.Code != 0 || len(u.Here) != 1 || u.Attrs.Has != bits {
					t.Errorf("%x: %s, %v", bits, tell(u), n)
				}
			}
		}
	}
	faults(t, []byte{0, 0, 0, 0, 0}, 3, 1)
	faults(t, []byte{0, 0, 0, 0, 33}, 3, 1)
}

// What is left must be prefixes, all of it.
func TestDecodeHere(t *testing.T) {
	for _, head := range [][]byte{join([]byte{0, 0}, long(need)), join(long(plainPrefixes(five())), long(plainAttrs(full())))} {
		for _, b := range [][]byte{{33}, {255}, {8}, {9, 10}, {32, 1, 2, 3}, {33, 1, 2, 3, 4, 5}, {8, 10, 33}, {8, 10, 16, 1}, {0, 0, 0, 1}, {33, 8, 10}} {
			faults(t, join(head, b), 10)
		}
	}
}

// Every prefix of the bytes: where they are cut tells which error it is.
func TestDecodeCut(t *testing.T) {
	for _, u := range goods() {
		b := plain(u)
		if len(b) > 500 {
			continue
		}
		for n := range len(b) + 1 {
			agrees(t, b[:n])
		}
	}
	head := join(long([]byte{8, 10, 0}), long(need))
	for n := range head {
		faults(t, head[:n], 1)
	}
	here := []byte{8, 10, 0, 16, 1, 2}
	for n, whole := range []int{0, -1, 1, 2, -1, -1, 3} {
		b := join(head, here[:n])
		if whole < 0 {
			faults(t, b, 10)
		} else if u, note := update.Decode(b); note.Code != 0 || len(u.Here) != whole || len(u.Gone) != 2 {
			t.Errorf("% x: %s, %v", b, tell(u), note)
		}
	}
}

// Every row of parts, right ones and wrong ones: what is wrong of the first one is told.
func TestDecodeRows(t *testing.T) {
	lists := [][]byte{need, nil, need[:4], plainAttrs(full())}
	for _, x := range mistakes() {
		lists = append(lists, x.b)
	}
	for _, gone := range [][]byte{{0, 0}, {0, 2, 8, 10}, {0, 1, 33}, {0, 1, 8}, {0, 9, 8}, {0}, nil} {
		for _, list := range lists {
			for _, size := range []int{0, -1, 1, 2, 3, 300} {
				n := len(list) + size
				if n < 0 {
					continue
				}
				for _, here := range [][]byte{nil, {0}, {8, 10}, {33}, {8}, {0, 0, 8}, {8, 10, 24, 1, 2}} {
					agrees(t, join(gone, []byte{byte(n >> 8), byte(n)}, list, here))
				}
			}
		}
	}
}

// P10.3

func TestRoundTrip(t *testing.T) {
	for _, u := range append(goods(), nearer(0)...) {
		b, e := update.Encode(u)
		back, n := update.Decode(b)
		if e != api.OK || n.Code != 0 || tell(back) != tell(u) || !update.Same(back, u) {
			t.Errorf("%s: %v, %v, %s", tell(u), e, n, tell(back))
		}
	}
}

func FuzzDecode(f *testing.F) {
	for _, u := range goods() {
		if b := plain(u); len(b) < 500 {
			f.Add(b)
		}
	}
	for _, x := range mistakes() {
		f.Add(join([]byte{0, 0}, long(x.b), []byte{0}))
	}
	f.Fuzz(func(t *testing.T, b []byte) {
		agrees(t, b)
		u, n := update.Decode(b)
		if n.Code != 0 {
			return
		}
		if !update.Good(u) {
			t.Fatalf("% x: %s is not good", b, tell(u))
		}
		again, e := update.Encode(u)
		if e == api.ErrLong && update.Size(u) > 4077 {
			return
		}
		if back, n := update.Decode(again); e != api.OK || n.Code != 0 || !update.Same(back, u) || len(again) != update.Size(u) {
			t.Fatalf("% x: %v, %v, %s", b, e, n, tell(back))
		}
	})
}
