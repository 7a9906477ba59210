package update

import (
	"confluence/api"
	"confluence/attr"
	"confluence/nlri"
	"confluence/octet"
)

// Subcodes of what can be wrong of an Update itself; the others are of its attributes.
const (
	subList = 1  // subList says that it is not clear where the lists are, or which prefixes are gone.
	subHere = 10 // subHere says that it is not clear which prefixes have the attributes.
)

// Encode writes an Update.
func Encode(u api.Update) ([]byte, api.Errno) {
	if !Good(u) {
		return nil, api.ErrArg
	}
	gone, _ := nlri.Encode(u.Gone...)
	attrs, _ := attr.Encode(u.Attrs)
	here, _ := nlri.Encode(u.Here...)
	// So few bytes as a message holds always have their number in two bytes.
	if lengths+len(gone)+len(attrs)+len(here) > most {
		return nil, api.ErrLong
	}
	var w octet.Writer
	w.Long(gone)
	w.Long(attrs)
	return w.Put(here).Bytes(), api.OK
}

// Decode reads what Encode writes, and what others write.
func Decode(b []byte) (api.Update, api.Notice) {
	r := octet.New(b)
	gone, e := nlri.Decode(r.Take(r.U16()))
	list := r.Take(r.U16())
	if e != api.OK || r.Bad() {
		return api.Update{}, fault(subList)
	}
	attrs, n := attr.Decode(list)
	if n.Code != 0 {
		return api.Update{}, n
	}
	// Attributes that no prefix has are read for their faults alone.
	if r.Left() == 0 {
		return api.Update{Gone: gone}, n
	}
	if n = attr.Well(attrs); n.Code != 0 {
		return api.Update{}, n
	}
	here, e := nlri.Decode(r.Rest())
	if e != api.OK {
		return api.Update{}, fault(subHere)
	}
	return api.Update{Gone: gone, Attrs: attrs, Here: here}, n
}

// fault is the notice of what is wrong of an Update.
func fault(sub int) api.Notice {
	return api.Notice{Code: api.UpdateError, Sub: sub}
}
