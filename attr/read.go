package attr

import (
	"confluence/api"
	"confluence/octet"
	"confluence/path"
)

// Subcodes of what can be wrong of attributes; the others are of other layers.
const (
	subList    = 1 + iota // subList says that it is not clear where the attributes are, or which one counts.
	subUnknown            // subUnknown says that there is a type that one should know.
	subMissing            // subMissing says that there is none of a type that there must be.
	subFlags
	subLength
	subOrigin
	_
	subHop
	subPath = 11
)

// Decode reads what Encode writes, and what others write.
func Decode(b []byte) (api.Attrs, api.Notice) {
	var a api.Attrs
	// What is skipped may come only once as well, so its types are kept too, which Has has no bits for.
	var seen [1 << 8]bool
	r := octet.New(b)
	for r.Left() > 0 {
		x := next(r)
		if r.Bad() || seen[x.kind] {
			return api.Attrs{}, x.notice(subList)
		}
		seen[x.kind] = true
		if sub := x.read(&a); sub != 0 {
			return api.Attrs{}, x.notice(sub)
		}
	}
	return Norm(a), api.Notice{}
}

// Path reads the value of an AS_PATH.
func Path(b []byte) ([]api.Seg, bool) {
	var l []api.Seg
	r := octet.New(b)
	for r.Left() > 0 {
		kind := r.U8()
		as := take(r, r.U8())
		if r.Bad() || kind != api.Set && kind != api.Sequence || len(as) == 0 {
			return nil, false
		}
		l = append(l, api.Seg{Kind: kind, AS: as})
	}
	return l, true
}

// Well tells the first type that is missing of those without which nothing can be announced.
func Well(a api.Attrs) api.Notice {
	for kind := api.TOrigin; kind <= api.THop; kind++ {
		if !has(a, kind) {
			return api.Notice{Code: api.UpdateError, Sub: subMissing, Data: []byte{byte(kind)}}
		}
	}
	return api.Notice{}
}

// read takes an attribute over, unless it is to be skipped, and is the subcode of what is wrong of it, or 0.
func (x item) read(a *api.Attrs) int {
	if !known(x.kind) {
		if x.flags&flagOptional == 0 {
			return subUnknown
		}
		return 0
	}
	if !x.flagged() {
		return subFlags
	}
	if !fits(x.kind, len(x.value)) {
		return subLength
	}
	a.Has |= 1 << x.kind
	return x.fill(a)
}

// flagged tells whether the flags are those of the type, which is one of the eight.
func (x item) flagged() bool {
	want := Flags(x.kind)
	// What others tell on may have passed one of them who did not know it.
	if want == flagsOn {
		want |= x.flags & flagPartial
	}
	return x.flags&^flagLong == want
}

// fill reads a value that has as many bytes as it must have.
func (x item) fill(a *api.Attrs) (sub int) {
	r := octet.New(x.value)
	switch x.kind {
	case api.TOrigin:
		a.Origin = r.U8()
		if a.Origin > api.Incomplete {
			return subOrigin
		}
	case api.TPath:
		l, ok := Path(x.value)
		if !ok || numbers(l) > api.MaxNumbers || !path.Good(path.Norm(l)) {
			return subPath
		}
		a.Path = l
	case api.THop:
		a.Hop = r.U32()
		if !Hop(a.Hop) {
			return subHop
		}
	case api.TMed:
		a.Med = r.U32()
	case api.TPref:
		a.Pref = r.U32()
	case api.TAggregator:
		a.AggAS = r.U32()
		a.AggID = r.U32()
	case api.TComms:
		a.Comms = take(r, r.Left()/wide)
	}
	return 0
}

// notice is what is told of an attribute: with all its bytes, but where its list or its path is in disorder.
func (x item) notice(sub int) api.Notice {
	n := api.Notice{Code: api.UpdateError, Sub: sub}
	if sub != subList && sub != subPath {
		var w octet.Writer
		x.put(&w)
		n.Data = w.Bytes()
	}
	return n
}

// take reads n numbers of four bytes.
func take(r *octet.Reader, n int) []uint32 {
	var l []uint32
	for range n {
		l = append(l, r.U32())
	}
	return l
}
