package attr

import (
	"confluence/api"
	"confluence/octet"
)

// Encode writes all that is present, by rising types.
func Encode(a api.Attrs) ([]byte, api.Errno) {
	if !Good(a) {
		return nil, api.ErrArg
	}
	var w octet.Writer
	for kind := api.TOrigin; kind <= api.Types; kind++ {
		if !has(a, kind) {
			continue
		}
		x := item{Flags(kind), kind, value(a, kind)}
		if len(x.value) > mostShort {
			x.flags |= flagLong
		}
		x.put(&w)
	}
	return w.Bytes(), api.OK
}

// Size is how many bytes Encode writes.
func Size(a api.Attrs) int {
	b, _ := Encode(a)
	return len(b)
}

// value is the bytes of what is told under one type.
func value(a api.Attrs, kind int) []byte {
	var w octet.Writer
	switch kind {
	case api.TOrigin:
		w.U8(a.Origin)
	case api.TPath:
		for _, s := range a.Path {
			w.U8(s.Kind).U8(len(s.AS))
			putAll(&w, s.AS)
		}
	case api.THop:
		w.U32(a.Hop)
	case api.TMed:
		w.U32(a.Med)
	case api.TPref:
		w.U32(a.Pref)
	case api.TAggregator:
		w.U32(a.AggAS).U32(a.AggID)
	case api.TComms:
		putAll(&w, a.Comms)
	}
	return w.Bytes()
}

// putAll writes numbers of four bytes.
func putAll(w *octet.Writer, l []uint32) {
	for _, n := range l {
		w.U32(n)
	}
}
