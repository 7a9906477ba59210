package notice_test

import (
	"bytes"
	"testing"

	"confluence/api"
	"confluence/notice"
)

// plain is the bytes of a good notice, put together.
func plain(n api.Notice) []byte {
	return append([]byte{byte(n.Code), byte(n.Sub)}, n.Data...)
}

// encodes reports a notice whose bytes are not those wanted.
func encodes(t *testing.T, n api.Notice, want ...byte) {
	t.Helper()
	if b, e := notice.Encode(n); e != api.OK || !bytes.Equal(b, want) {
		t.Errorf("%d, %d, %d bytes: % x, %v", n.Code, n.Sub, len(n.Data), b, e)
	}
}

// decodes reports bytes that are not read as a notice.
func decodes(t *testing.T, b []byte, code, sub int, data ...byte) {
	t.Helper()
	if n, ok := notice.Decode(b); !ok || n.Code != code || n.Sub != sub || !bytes.Equal(n.Data, data) {
		t.Errorf("%d bytes: %v, %v, not %d, %d, % x", len(b), n, ok, code, sub, data)
	}
}

// refuses reports bytes that are read though they are no notice.
func refuses(t *testing.T, b []byte) {
	t.Helper()
	if n, ok := notice.Decode(b); ok || n.Code != 0 || n.Sub != 0 || n.Data != nil {
		t.Errorf("%d bytes: %v, %v", len(b), n, ok)
	}
}

// P11.1
func TestEncode(t *testing.T) {
	encodes(t, api.Notice{Code: 6, Sub: 2}, 6, 2)
	encodes(t, api.Notice{Code: 6, Sub: 2, Data: []byte{}}, 6, 2)
	encodes(t, api.Notice{Code: 1}, 1, 0)
	encodes(t, api.Notice{Code: 255, Sub: 255}, 255, 255)
	encodes(t, api.Notice{Code: 2, Sub: 1, Data: []byte{0, 4}}, 2, 1, 0, 4)
	encodes(t, api.Notice{Code: 3, Sub: 6, Data: []byte{0x40, 1, 1, 3}}, 3, 6, 0x40, 1, 1, 3)
	encodes(t, api.Notice{Code: 3, Data: []byte{0}}, 3, 0, 0)
}

// P11.1: the good ones have their bytes, and the others have none.
func TestEncodeEvery(t *testing.T) {
	every(func(n api.Notice, good bool) {
		if good {
			encodes(t, n, plain(n)...)
		} else if b, e := notice.Encode(n); b != nil || e != api.ErrArg {
			t.Errorf("%d, %d, %d bytes: %d bytes, %v", n.Code, n.Sub, len(n.Data), len(b), e)
		}
	})
	if b, e := notice.Encode(api.Notice{}); b != nil || e != api.ErrArg {
		t.Errorf("the zero notice: % x, %v", b, e)
	}
}

// P11.1
func TestDecode(t *testing.T) {
	decodes(t, []byte{6, 2}, 6, 2)
	decodes(t, []byte{1, 0}, 1, 0)
	decodes(t, []byte{255, 255}, 255, 255)
	decodes(t, []byte{1, 0, 0}, 1, 0, 0)
	decodes(t, []byte{2, 1, 0, 4}, 2, 1, 0, 4)
	decodes(t, []byte{3, 6, 0x40, 1, 1, 3}, 3, 6, 0x40, 1, 1, 3)
	for _, b := range [][]byte{nil, {}, {0}, {1}, {6}, {255}, {0, 0}, {0, 1}, {0, 255}, {0, 6, 2}} {
		refuses(t, b)
	}
}

// P11.1: every Code with every Sub, without Data and with some.
func TestDecodeEvery(t *testing.T) {
	for code := range 256 {
		for sub := range 256 {
			for _, data := range [][]byte{nil, {0}, {9, byte(sub), byte(code)}} {
				b := append([]byte{byte(code), byte(sub)}, data...)
				if code == 0 {
					refuses(t, b)
				} else {
					decodes(t, b, code, sub, data...)
				}
			}
		}
	}
}

// P11.1: every number of bytes: from two bytes on up to 4077 there is a notice.
func TestDecodeSizes(t *testing.T) {
	all := append([]byte{6, 0}, long(5000)...)
	none := append([]byte{0, 6}, long(5000)...)
	for size := range len(all) + 1 {
		if size < 2 || size > 4077 {
			refuses(t, all[:size])
		} else {
			decodes(t, all[:size], 6, 0, all[2:size]...)
		}
		refuses(t, none[:size])
	}
	for _, size := range []int{65534, 65535, 65536, 65537, 65538, 1 << 20} {
		refuses(t, append([]byte{6, 2}, long(size)...))
	}
}

// P11.3: what is written is read again, and there are no other bytes of it.
func TestRound(t *testing.T) {
	every(func(n api.Notice, good bool) {
		if !good {
			return
		}
		b, _ := notice.Encode(n)
		again, ok := notice.Decode(b)
		if !ok || !notice.Same(again, n) || again.Code != n.Code || again.Sub != n.Sub || !bytes.Equal(again.Data, n.Data) {
			t.Errorf("%d, %d, %d bytes: %v, %v", n.Code, n.Sub, len(n.Data), again, ok)
		}
	})
	for code := 1; code < 256; code++ {
		for sub := range 256 {
			n := api.Notice{Code: code, Sub: sub, Data: []byte{byte(sub), byte(code)}[:code%3]}
			b, _ := notice.Encode(n)
			if again, ok := notice.Decode(b); !ok || !notice.Same(again, n) {
				t.Errorf("%v: %v, %v", n, again, ok)
			}
		}
	}
}

// Any bytes: what is read is good, and has just these bytes.
func FuzzDecode(f *testing.F) {
	for _, b := range [][]byte{nil, {6}, {6, 2}, {0, 2}, {3, 6, 0x40, 1, 1, 3}, append([]byte{1, 255}, long(4075)...), append([]byte{1, 255}, long(4076)...)} {
		f.Add(b)
	}
	f.Fuzz(func(t *testing.T, b []byte) {
		n, ok := notice.Decode(b)
		if ok != (len(b) >= 2 && len(b) <= 4077 && b[0] != 0) || ok == notice.None(n) {
			t.Fatalf("% x: %v, %v", b, n, ok)
		}
		if !ok {
			return
		}
		again, e := notice.Encode(n)
		if e != api.OK || !notice.Good(n) || !bytes.Equal(again, b) {
			t.Errorf("% x: %v, % x, %v", b, n, again, e)
		}
	})
}
