package notice

import (
	"confluence/api"
	"confluence/octet"
)

// Encode writes a notice.
func Encode(n api.Notice) ([]byte, api.Errno) {
	if !Good(n) {
		return nil, api.ErrArg
	}
	var w octet.Writer
	return w.U8(n.Code).U8(n.Sub).Put(n.Data).Bytes(), api.OK
}

// Decode reads what Encode writes, and tells whether it could.
func Decode(b []byte) (api.Notice, bool) {
	r := octet.New(b)
	n := api.Notice{Code: r.U8(), Sub: r.U8(), Data: r.Rest()}
	// A subcode that is missing reads as 0, which may be: the reader alone tells the two apart.
	if r.Bad() || !Good(n) {
		return api.Notice{}, false
	}
	return n, true
}
