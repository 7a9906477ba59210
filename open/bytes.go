package open

import (
	"confluence/api"
	"confluence/octet"
)

// The numbers that stand for what there is in an Open.
const (
	version      = 4  // version is the only one of the protocol.
	capabilities = 2  // capabilities is the only type of a parameter.
	codeFour     = 65 // codeFour is the capability to tell numbers of four bytes.
)

// Encode writes an Open.
func Encode(o api.Open) ([]byte, api.Errno) {
	if !Good(o) {
		return nil, api.ErrArg
	}
	as := o.AS
	if as > most16 {
		as = api.Trans
	}
	var parameters, w octet.Writer
	if o.Four {
		parameters.U8(capabilities).Sized(four(o.AS))
	}
	w.U8(version).U16(int(as)).U16(o.Hold).U32(o.ID).Sized(parameters.Bytes())
	return w.Bytes(), api.OK
}

// Decode reads what Encode writes, and what others write.
func Decode(b []byte) (api.Open, api.Notice) {
	var o api.Open
	var n api.Notice
	r := octet.New(b)
	given := r.U8()
	o.AS = uint32(r.U16())
	o.Hold = r.U16()
	o.ID = r.U32()
	size := r.U8()
	switch {
	case r.Bad():
		n = fault(subForm)
	case given != version:
		n = fault(subVersion, 0, version)
	case o.AS == 0:
		n = fault(subAS)
	case !holds(o.Hold):
		n = fault(subHold)
	case o.ID == 0:
		n = fault(subID)
	case size != r.Left():
		n = fault(subForm)
	default:
		n = read(r, &o)
	}
	if n.Code != 0 {
		return api.Open{}, n
	}
	return o, n
}

// read takes over what the parameters tell of an Open, and tells what is wrong of them.
func read(r *octet.Reader, o *api.Open) api.Notice {
	for r.Left() > 0 {
		kind, list := next(r)
		if r.Bad() {
			goto form
		}
		if kind != capabilities {
			return fault(subParameter)
		}
		for list.Left() > 0 {
			code, value := next(list)
			if list.Bad() {
				goto form
			}
			if code != codeFour {
				continue
			}
			o.Four = true
			o.AS = value.U32()
			// A value that lacks bytes has the number 0 as well.
			if o.AS == 0 || value.Left() > 0 {
				goto form
			}
		}
	}
	return api.Notice{}
form:
	return fault(subForm)
}

// next reads a parameter or a capability, which have one form: what it is, and the bytes that it has.
func next(r *octet.Reader) (kind int, value *octet.Reader) {
	kind = r.U8()
	return kind, r.Part(r.U8())
}

// four is the capability to tell numbers of four bytes, and the number of the one who has it.
func four(as uint32) []byte {
	var w, number octet.Writer
	number.U32(as)
	w.U8(codeFour).Sized(number.Bytes())
	return w.Bytes()
}
