package message

import (
	"confluence/api"
	"confluence/frame"
	"confluence/notice"
	"confluence/open"
	"confluence/update"
)

// head is how many bytes a message has ahead of its body.
const head = 19

// Subcodes of what is wrong of a frame itself; all else is of what stands in its body.
const (
	subLength = 2
	subType   = 3
)

// Encode writes a message.
func Encode(m api.Message) ([]byte, api.Errno) {
	b, e := body(m)
	if e != api.OK {
		return nil, e
	}
	return frame.Wrap(m.Type, b)
}

// Keep writes a KEEPALIVE, of which there is only one.
func Keep() []byte {
	b, _ := frame.Wrap(api.MKeep, nil)
	return b
}

// Decode reads what a frame holds.
func Decode(f frame.Frame) (api.Message, api.Notice) {
	m := api.Message{Type: f.Type}
	n := api.Notice{}
	ok := true
	switch f.Type {
	case api.MOpen:
		m.Open, n = open.Decode(f.Body)
	case api.MUpdate:
		m.Update, n = update.Decode(f.Body)
	case api.MNotice:
		m.Notice, ok = notice.Decode(f.Body)
	case api.MKeep:
		ok = len(f.Body) == 0
	default:
		n = fault(subType)
	}
	// A NOTIFICATION and a KEEPALIVE have no notices of their own: whatever is wrong of such a body, its length is told.
	if !ok {
		n = fault(subLength)
	}
	if n.Code != 0 {
		return api.Message{}, n
	}
	return m, n
}

// Read reads all messages that are whole, up to one that is wrong, and tells how many bytes they have.
func Read(b []byte) ([]api.Message, int, api.Notice) {
	var read []api.Message
	done := 0
	frames, _, last := frame.Split(b)
	for _, f := range frames {
		m, n := Decode(f)
		if n.Code != 0 {
			return read, done, n
		}
		read = append(read, m)
		done += head + len(f.Body)
	}
	// A head that may not be stands behind all frames: it counts only where none of them is wrong.
	return read, done, last
}

// body writes what a message has as one of its type.
func body(m api.Message) ([]byte, api.Errno) {
	switch m.Type {
	case api.MOpen:
		return open.Encode(m.Open)
	case api.MUpdate:
		return update.Encode(m.Update)
	case api.MNotice:
		return notice.Encode(m.Notice)
	case api.MKeep:
		return nil, api.OK
	}
	return nil, api.ErrArg
}

// fault is the notice of what is wrong of a frame.
func fault(sub int) api.Notice {
	return api.Notice{Code: api.HeadError, Sub: sub}
}
