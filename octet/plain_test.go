package octet_test

import (
	"bytes"
	"testing"

	"confluence/octet"
)

// plain is a reader made anew in the plainest way: where it stands in a list that it never changes.
type plain struct {
	all []byte
	at  int
	bad bool
}

// read is n bytes; where there are too few, it is nil from then on.
func (p *plain) read(n int) []byte {
	if n < 0 || p.at+n > len(p.all) {
		p.bad = true
	}
	if p.bad {
		p.at = len(p.all)
		return nil
	}
	p.at += n
	return p.all[p.at-n : p.at]
}

// number is a number of n bytes.
func (p *plain) number(n int) int {
	sum := 0
	for _, b := range p.read(n) {
		sum = sum*256 + int(b)
	}
	return sum
}

// step does one call of each of the two, by its code, and tells whether they answer the same. Codes from 4 to 31 take code-7 bytes, those from 32 on part code-35.
func step(r *octet.Reader, p *plain, code int) bool {
	same := true
	switch {
	case code == 0:
		same = r.U8() == p.number(1)
	case code == 1:
		same = r.U16() == p.number(2)
	case code == 2:
		same = int(r.U32()) == p.number(4)
	case code == 3:
		same = bytes.Equal(r.Rest(), p.read(len(p.all)-p.at))
	case code < 32:
		same = bytes.Equal(r.Take(code-7), p.read(code-7))
	default:
		part, all := r.Part(code-35), p.read(code-35)
		q := &plain{all: all, bad: p.bad}
		same = alike(part, q)
		for _, x := range []int{0, 1, 7, 3, 3, 0} {
			same = same && step(part, q, x)
		}
	}
	return same && alike(r, p)
}

// alike tells whether the two stand at the same place.
func alike(r *octet.Reader, p *plain) bool {
	return r.Left() == len(p.all)-p.at && r.Bad() == p.bad
}

// P6.1: every row of four calls on lists of up to nine bytes.
func TestRows(t *testing.T) {
	codes := []int{0, 1, 2, 3, 6, 7, 8, 9, 10, 34, 35, 36, 37, 38}
	for have := range 10 {
		for row := range 14 * 14 * 14 * 14 {
			r, p := octet.New(nine()[:have]), &plain{all: nine()[:have]}
			for rest, i := row, 0; i < 4; i++ {
				if !step(r, p, codes[rest%14]) {
					t.Fatal(have, row, i)
				}
				rest /= 14
			}
		}
	}
}

// Any bytes, and any row of calls on them.
func FuzzReader(f *testing.F) {
	f.Add(nine(), []byte{0, 1, 2, 2})
	f.Add(nine(), []byte{10, 38, 3, 0})
	f.Add([]byte{}, []byte{7, 35, 6, 34})
	f.Fuzz(func(t *testing.T, b, calls []byte) {
		r, p := octet.New(b), &plain{all: b}
		for i, c := range calls {
			if !step(r, p, int(c)%64) {
				t.Fatal(i, c)
			}
		}
	})
}
