package frame

import (
	"bytes"

	"confluence/api"
)

// Stream is bytes that wait, or a stream that a head broke.
type Stream struct {
	waits  []byte // waits are fewer than the message has that they begin, as far as its head has arrived.
	broken bool   // broken says that nothing waits, nor will be read.
}

// New makes a stream.
func New() *Stream {
	return &Stream{}
}

// Feed reads all messages that are whole with these bytes, up to a head that may not be, which breaks the stream.
func (s *Stream) Feed(b []byte) ([]Frame, api.Notice) {
	if s == nil || s.broken {
		return nil, api.Notice{}
	}
	s.waits = append(s.waits, b...)
	frames, size, n := Split(s.waits)
	switch {
	case n.Code != 0:
		s.waits, s.broken = nil, true
	case size > 0:
		// What waits is few bytes: a copy of them keeps no hold of all that was read.
		s.waits = bytes.Clone(s.waits[size:])
	}
	return frames, n
}

// Waits is how many bytes wait for the rest of their message.
func (s *Stream) Waits() int {
	if s == nil {
		return 0
	}
	return len(s.waits)
}

// Broken tells whether there was a head that may not be.
func (s *Stream) Broken() bool {
	return s != nil && s.broken
}

// Reset makes a stream as if nothing had been fed.
func (s *Stream) Reset() {
	if s != nil {
		*s = Stream{}
	}
}
