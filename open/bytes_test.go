package open_test

import (
	"bytes"
	"math"
	"testing"

	"confluence/api"
	"confluence/open"
)

// plain is the bytes of a good Open, put together from those of each number.
func plain(o api.Open) []byte {
	two := four(o.AS)[2:]
	if o.AS > 65535 {
		two = []byte{0x5b, 0xa0}
	}
	b := append([]byte{4}, two...)
	b = append(b, four(uint32(o.Hold))[2:]...)
	b = append(b, four(o.ID)...)
	if !o.Four {
		return append(b, 0)
	}
	return append(append(b, 8, 2, 6, 0x41, 4), four(o.AS)...)
}

// plainDecode reads an Open by places in the list, each rule as the chapter tells it: it owes nothing to what it checks.
func plainDecode(b []byte) (api.Open, api.Notice) {
	wrong := func(sub int, data ...byte) (api.Open, api.Notice) {
		return api.Open{}, api.Notice{Code: 2, Sub: sub, Data: data}
	}
	if len(b) < 10 {
		return wrong(0)
	}
	if b[0] != 4 {
		return wrong(1, 0, 4)
	}
	if b[1] == 0 && b[2] == 0 {
		return wrong(2)
	}
	if b[3] == 0 && (b[4] == 1 || b[4] == 2) {
		return wrong(6)
	}
	if b[5] == 0 && b[6] == 0 && b[7] == 0 && b[8] == 0 {
		return wrong(3)
	}
	if len(b) != 10+int(b[9]) {
		return wrong(0)
	}
	o := api.Open{AS: number([]byte{0, 0, b[1], b[2]}), Hold: int(b[3])*256 + int(b[4]), ID: number(b[5:9])}
	for at := 10; at < len(b); {
		if at+2 > len(b) || at+2+int(b[at+1]) > len(b) {
			return wrong(0)
		}
		if b[at] != 2 {
			return wrong(4)
		}
		end := at + 2 + int(b[at+1])
		for at += 2; at < end; at += 2 + int(b[at+1]) {
			if at+2 > end || at+2+int(b[at+1]) > end {
				return wrong(0)
			}
			if b[at] != 65 {
				continue
			}
			if b[at+1] != 4 || number(b[at+2:]) == 0 {
				return wrong(0)
			}
			o.AS, o.Four = number(b[at+2:]), true
		}
	}
	return o, api.Notice{}
}

// number is the number in the first four bytes.
func number(b []byte) uint32 {
	return uint32(b[0])<<24 + uint32(b[1])<<16 + uint32(b[2])<<8 + uint32(b[3])
}

// item is a parameter or a capability: what it is, and its bytes behind their number.
func item(kind int, value ...byte) []byte {
	return append([]byte{byte(kind), byte(len(value))}, value...)
}

// able is the capability 65 with a number.
func able(as uint32) []byte {
	return item(65, four(as)...)
}

// join puts lists one behind the other.
func join(lists ...[]byte) []byte {
	return bytes.Join(lists, nil)
}

// ends is, for each size at which one of the lists ends, how many of them are whole there.
func ends(lists [][]byte) map[int]int {
	whole := map[int]int{}
	for n := range len(lists) + 1 {
		whole[len(join(lists[:n]...))] = n
	}
	return whole
}

// head is an Open of the number 300, with the time 90 and an id, ahead of so many bytes of parameters.
func head(size int) []byte {
	return []byte{4, 1, 44, 0, 90, 10, 0, 0, 1, byte(size)}
}

// with is this Open with parameters.
func with(parameters ...[]byte) []byte {
	b := join(parameters...)
	return append(head(len(b)), b...)
}

// plainly is what this Open tells without parameters, and fourly with a number in four bytes.
var plainly = api.Open{AS: 300, Hold: 90, ID: 0x0a000001}

func fourly(as uint32) api.Open {
	return api.Open{AS: as, Hold: 90, ID: 0x0a000001, Four: true}
}

// decodes reports bytes that are not read as an Open.
func decodes(t *testing.T, b []byte, want api.Open) {
	t.Helper()
	o, n := open.Decode(b)
	if o != want || n.Code != 0 || n.Sub != 0 || n.Data != nil {
		t.Errorf("% x: %+v, %v, not %+v", b, o, n, want)
	}
}

// faults reports bytes that are not refused as wanted.
func faults(t *testing.T, b []byte, sub int, data ...byte) {
	t.Helper()
	if o, n := open.Decode(b); o != (api.Open{}) || !same(n, 2, sub, data...) {
		t.Errorf("% x: %+v, %v, not %d % x", b, o, n, sub, data)
	}
}

// agrees reports bytes that are not read, or not refused, as by plainDecode.
func agrees(t *testing.T, b []byte) {
	t.Helper()
	if o, n := plainDecode(b); n.Code == 0 {
		decodes(t, b, o)
	} else {
		faults(t, b, n.Sub, n.Data...)
	}
}

// P9.1

// encodes reports an Open whose bytes are not those wanted.
func encodes(t *testing.T, o api.Open, want ...byte) {
	t.Helper()
	if b, e := open.Encode(o); e != api.OK || !bytes.Equal(b, want) {
		t.Errorf("%+v: % x, %v, not % x", o, b, e, want)
	}
}

func TestEncode(t *testing.T) {
	encodes(t, api.Open{AS: 1, ID: 1}, 4, 0, 1, 0, 0, 0, 0, 0, 1, 0)
	encodes(t, api.Open{AS: 65000, Hold: 90, ID: 0x0a000102}, 4, 0xfd, 0xe8, 0, 90, 10, 0, 1, 2, 0)
	encodes(t, api.Open{AS: 65535, Hold: 65535, ID: math.MaxUint32}, 4, 0xff, 0xff, 0xff, 0xff, 0xff, 0xff, 0xff, 0xff, 0)
	encodes(t, api.Open{AS: 23456, Hold: 3, ID: 1}, 4, 0x5b, 0xa0, 0, 3, 0, 0, 0, 1, 0)
	encodes(t, api.Open{AS: 1, ID: 1, Four: true}, 4, 0, 1, 0, 0, 0, 0, 0, 1, 8, 2, 6, 0x41, 4, 0, 0, 0, 1)
	encodes(t, api.Open{AS: 65535, Hold: 256, ID: 0x01020304, Four: true}, 4, 0xff, 0xff, 1, 0, 1, 2, 3, 4, 8, 2, 6, 0x41, 4, 0, 0, 0xff, 0xff)
	encodes(t, api.Open{AS: 65536, Hold: 180, ID: 0x01020304, Four: true}, 4, 0x5b, 0xa0, 0, 180, 1, 2, 3, 4, 8, 2, 6, 0x41, 4, 0, 1, 0, 0)
	encodes(t, api.Open{AS: math.MaxUint32, Hold: 180, ID: 0x01020304, Four: true}, 4, 0x5b, 0xa0, 0, 180, 1, 2, 3, 4, 8, 2, 6, 0x41, 4, 0xff, 0xff, 0xff, 0xff)
}

// Every Open: the good ones have their bytes, and the others have none.
func TestEncodeEvery(t *testing.T) {
	every(func(o api.Open, good bool) {
		if good {
			encodes(t, o, plain(o)...)
		} else if b, e := open.Encode(o); b != nil || e != api.ErrArg {
			t.Errorf("%+v: % x, %v", o, b, e)
		}
	})
}

// P9.2

func TestDecode(t *testing.T) {
	decodes(t, head(0), plainly)
	decodes(t, []byte{4, 0, 1, 0, 0, 0, 0, 0, 1, 0}, api.Open{AS: 1, ID: 1})
	decodes(t, []byte{4, 1, 0, 1, 0, 1, 0, 0, 0, 0}, api.Open{AS: 256, Hold: 256, ID: 1 << 24})
	decodes(t, []byte{4, 0xff, 0xff, 0xff, 0xff, 0xff, 0xff, 0xff, 0xff, 0}, api.Open{AS: 65535, Hold: 65535, ID: math.MaxUint32})
	decodes(t, []byte{4, 1, 2, 3, 4, 5, 6, 7, 8, 8, 2, 6, 0x41, 4, 9, 10, 11, 12}, api.Open{AS: 0x090a0b0c, Hold: 0x0304, ID: 0x05060708, Four: true})
	// The number that stands for those of four bytes is one like others: alone it is the number itself, and none must stand there.
	decodes(t, []byte{4, 0x5b, 0xa0, 0, 3, 0, 0, 0, 1, 0}, api.Open{AS: 23456, Hold: 3, ID: 1})
	decodes(t, append([]byte{4, 0x5b, 0xa0, 0, 3, 0, 0, 0, 1, 8, 2, 6}, able(65536)...), api.Open{AS: 65536, Hold: 3, ID: 1, Four: true})
	decodes(t, append([]byte{4, 0x5b, 0xa0, 0, 3, 0, 0, 0, 1, 8, 2, 6}, able(7)...), api.Open{AS: 7, Hold: 3, ID: 1, Four: true})
	for _, x := range numbers[1:] {
		decodes(t, with(item(2, able(x.as)...)), fourly(x.as))
	}
}

// Each error alone.
func TestDecodeFaults(t *testing.T) {
	faults(t, nil, 0)
	faults(t, []byte{}, 0)
	faults(t, head(0)[:9], 0)
	faults(t, []byte{3, 1, 44, 0, 90, 10, 0, 0, 1, 0}, 1, 0, 4)
	faults(t, []byte{4, 0, 0, 0, 90, 10, 0, 0, 1, 0}, 2)
	faults(t, []byte{4, 1, 44, 0, 1, 10, 0, 0, 1, 0}, 6)
	faults(t, []byte{4, 1, 44, 0, 2, 10, 0, 0, 1, 0}, 6)
	faults(t, []byte{4, 1, 44, 0, 90, 0, 0, 0, 0, 0}, 3)
	faults(t, append(head(0), 2), 0)
	faults(t, head(1), 0)
	faults(t, with([]byte{2}), 0)
	faults(t, with([]byte{2, 1}), 0)
	faults(t, with(item(1, 65, 4, 0, 0, 0, 9)), 4)
	faults(t, with(item(2, 65)), 0)
	faults(t, with(item(2, 65, 4, 0, 0, 9)), 0)
	faults(t, with(item(2, 65, 3, 0, 0, 9)), 0)
	faults(t, with(item(2, 65, 5, 0, 0, 0, 9, 9)), 0)
	faults(t, with(item(2, able(0)...)), 0)
}

// Every byte of the version; every number in two bytes and every time, each of the one with some of the other.
func TestDecodeHead(t *testing.T) {
	for version := range 256 {
		b := head(0)
		b[0] = byte(version)
		if version == 4 {
			decodes(t, b, plainly)
		} else {
			faults(t, b, 1, 0, 4)
		}
	}
	for n := range 1 << 16 {
		b := head(0)
		b[1], b[2] = byte(n>>8), byte(n)
		agrees(t, b)
		b = head(0)
		b[3], b[4] = byte(n>>8), byte(n)
		agrees(t, b)
	}
	for bit := range 32 {
		b := head(0)
		copy(b[5:], four(1<<bit))
		decodes(t, b, api.Open{AS: 300, Hold: 90, ID: 1 << bit})
	}
}

// What is cut anywhere lacks bytes: of the head, or of the parameters that the head tells of.
func TestDecodeCut(t *testing.T) {
	for _, b := range [][]byte{
		head(0), with(item(2, able(9)...)), with(item(2), item(2, able(9)...), item(2, 1, 0)), with(item(2, join(able(8), item(1, 7), able(9))...)), with(item(7, 7)),
	} {
		agrees(t, b)
		for size := range len(b) {
			faults(t, b[:size], 0)
		}
		// What is too long is no better.
		faults(t, append(bytes.Clone(b), 0), 0)
		faults(t, join(b, item(2)), 0)
		faults(t, join(b, b), 0)
	}
	// Being cut comes ahead of everything that is wrong of the head.
	for size := range 10 {
		faults(t, make([]byte, size), 0)
	}
}

// Parameters that are cut where the head knows of it: they may end where one ends, and nowhere else.
func TestDecodeCutParameters(t *testing.T) {
	all := [][]byte{item(2, able(5)...), item(2), item(2, join(item(1, 0, 1, 0, 1), able(6), item(64))...), item(2, 70, 0)}
	want := []api.Open{plainly, fourly(5), fourly(5), fourly(6), fourly(6)}
	b, whole := join(all...), ends(all)
	for size := range len(b) + 1 {
		if n, ok := whole[size]; ok {
			decodes(t, with(b[:size]), want[n])
		} else {
			faults(t, with(b[:size]), 0)
		}
	}
}

// Capabilities that are cut where their parameter knows of it: they too may end only where one ends.
func TestDecodeCutCapabilities(t *testing.T) {
	all := [][]byte{item(1, 0, 1, 0, 1), able(5), item(64), able(6), item(65+128, 0)}
	want := []api.Open{plainly, plainly, fourly(5), fourly(5), fourly(6), fourly(6)}
	b, whole := join(all...), ends(all)
	for size := range len(b) + 1 {
		if n, ok := whole[size]; ok {
			decodes(t, with(item(2, b[:size]...)), want[n])
			decodes(t, with(item(2, b[:size]...), item(2)), want[n])
		} else {
			// What stands behind its parameter, or is another one, does not fill a capability up.
			faults(t, with(item(2, b[:size]...)), 0)
			faults(t, with(item(2, b[:size]...), item(2, b[size:]...)), 0)
			faults(t, with(item(2, b[:size]...), item(2, able(9)...)), 0)
		}
	}
}

// The number of the bytes of parameters is the number of those that remain: no more, and no fewer.
func TestDecodeSize(t *testing.T) {
	for rest := range 300 {
		b := append(head(0), make([]byte, rest)...)
		for i := 10; i+1 < len(b); i += 2 {
			b[i] = 2
		}
		for size := range 256 {
			b[9] = byte(size)
			if size != rest || rest%2 == 1 {
				faults(t, b, 0)
			} else {
				decodes(t, b, plainly)
			}
		}
	}
	// A parameter may fill all that there can be, and a capability all of it.
	decodes(t, with(item(2, item(9, make([]byte, 251)...)...)), plainly)
	decodes(t, with(item(2, join(item(9, make([]byte, 245)...), able(7))...)), fourly(7))
}

// Every type of a parameter, whatever it has, and every one that is cut.
func TestDecodeTypes(t *testing.T) {
	for kind := range 256 {
		for _, value := range [][]byte{nil, {1}, able(9), able(0), {65, 9}, make([]byte, 200)} {
			agrees(t, with(item(kind, value...)))
			if kind != 2 {
				faults(t, with(item(kind, value...)), 4)
				faults(t, with(item(2, able(9)...), item(kind, value...)), 4)
				faults(t, with(item(2), item(kind, value...), item(2, able(9)...)), 4)
			}
		}
		for _, cut := range [][]byte{{byte(kind)}, {byte(kind), 1}, {byte(kind), 255}, {byte(kind), 2, 65}, {byte(kind), 7, 65, 4, 0, 0, 0, 1}} {
			// Whether one is whole is asked ahead of what it is.
			faults(t, with(cut), 0)
			faults(t, with(item(2, able(9)...), cut), 0)
			faults(t, with(item(1), cut), 4)
		}
	}
}

// Every code of a capability, of every length: those other than 65 are skipped.
func TestDecodeCodes(t *testing.T) {
	for code := range 256 {
		for size := range 100 {
			value := bytes.Repeat([]byte{3}, size)
			c := item(code, value...)
			switch {
			case code != 65:
				decodes(t, with(item(2, c...)), plainly)
				decodes(t, with(item(2, join(c, able(9), item(code))...)), fourly(9))
				decodes(t, with(item(2, able(9)...), item(2, join(c, c)...)), fourly(9))
			case size == 4:
				decodes(t, with(item(2, c...)), fourly(0x03030303))
			default:
				faults(t, with(item(2, c...)), 0)
				faults(t, with(item(2, join(able(9), c)...)), 0)
				faults(t, with(item(2, join(c, able(9))...)), 0)
			}
		}
		for _, cut := range [][]byte{{byte(code)}, {byte(code), 1}, {byte(code), 4, 0, 0, 1}, {byte(code), 255, 0, 0, 0, 1}} {
			faults(t, with(item(2, cut...)), 0)
			faults(t, with(item(2, join(able(9), cut)...)), 0)
		}
	}
	// Zeros of another length are no number either.
	for size := range 100 {
		faults(t, with(item(2, item(65, make([]byte, size)...)...)), 0)
	}
}

// Of several numbers in four bytes the last one counts, in one parameter or in several; each of them must be one.
func TestDecodeLast(t *testing.T) {
	decodes(t, with(item(2, join(able(8), able(9))...)), fourly(9))
	decodes(t, with(item(2, able(8)...), item(2, able(9)...)), fourly(9))
	decodes(t, with(item(2, join(able(9), able(8), able(65536), able(1))...)), fourly(1))
	decodes(t, with(item(2, able(math.MaxUint32)...), item(2), item(2, join(able(300), able(300))...)), fourly(300))
	faults(t, with(item(2, join(able(8), able(0))...)), 0)
	faults(t, with(item(2, join(able(0), able(8))...)), 0)
	faults(t, with(item(2, able(0)...), item(2, able(8)...)), 0)
	faults(t, with(item(2, able(8)...), item(2, able(0)...)), 0)
}

// All rows of errors of the head, with parameters of all sorts behind it: the one that the chapter names first counts.
func TestDecodeOrder(t *testing.T) {
	for bits := range 64 {
		for _, x := range []struct {
			sub int
			b   []byte
		}{{0, []byte{2}}, {4, item(1)}, {4, item(3, able(0)...)}, {0, item(2, 65)}, {0, item(2, able(0)...)}, {-1, item(2, able(9)...)}, {-1, nil}} {
			b, sub := with(x.b), x.sub
			data := []byte(nil)
			if bits&1 != 0 {
				b, sub = append(b, 0), 0
			}
			if bits&2 != 0 {
				copy(b[5:], four(0))
				sub = 3
			}
			if bits&4 != 0 {
				b[3], b[4] = 0, byte(1+bits%2)
				sub = 6
			}
			if bits&8 != 0 {
				b[1], b[2] = 0, 0
				sub = 2
			}
			if bits&16 != 0 {
				b[0] = 5
				sub, data = 1, []byte{0, 4}
			}
			if bits&32 != 0 {
				b = b[:9]
				sub, data = 0, nil
			}
			agrees(t, b)
			if sub >= 0 {
				faults(t, b, sub, data...)
			}
		}
	}
}

// pool are parameters of every sort: right ones, with several capabilities and with none, and wrong ones.
func pool() [][]byte {
	return [][]byte{
		item(2), item(2, able(9)...), item(2, able(65536)...), item(2, join(able(7), item(1, 0, 1, 0, 1), able(8))...), item(2, 64, 0, 66, 1, 7),
		item(1), item(0, 1, 2), item(255), item(2, able(0)...), item(2, 65), item(2, 65, 4), item(2, 65, 3, 1, 2, 3), item(2, 65, 5, 0, 0, 0, 1, 2), item(2, 65, 0), item(2, 1),
		{2}, {1}, {2, 1}, {1, 9}, {2, 255}, {},
	}
}

// Every row of up to three parameters: the first error counts.
func TestDecodeRows(t *testing.T) {
	for _, x := range pool() {
		for _, y := range pool() {
			for _, z := range pool() {
				agrees(t, with(x, y, z))
				// What is wrong of a capability counts as well when several parameters are one.
				agrees(t, with(item(2, join(x, y, z)...)))
			}
		}
	}
}

// P9.4

func TestRoundTrip(t *testing.T) {
	every(func(o api.Open, good bool) {
		if !good {
			return
		}
		b, e := open.Encode(o)
		if e != api.OK {
			t.Errorf("%+v: %v", o, e)
		}
		decodes(t, b, o)
	})
}

func FuzzDecode(f *testing.F) {
	f.Add([]byte(nil))
	for _, x := range pool() {
		f.Add(with(x))
		f.Add(with(item(2, able(9)...), x))
	}
	f.Fuzz(func(t *testing.T, b []byte) {
		agrees(t, b)
		o, n := open.Decode(b)
		if n.Code != 0 {
			return
		}
		// What was read is good, and what is written of it is read as the same.
		again, e := open.Encode(o)
		if e != api.OK || !open.Good(o) {
			t.Fatalf("% x: %+v, %v", b, o, e)
		}
		decodes(t, again, o)
	})
}
