package octet

import "bytes"

// The greatest lengths that one byte and two bytes hold.
const (
	mostSized = 1<<8 - 1
	mostLong  = 1<<16 - 1
)

// Writer is the bytes that were written; the zero Writer has none.
type Writer struct {
	written []byte
}

// U8 writes the lowest byte of n.
func (w *Writer) U8(n int) *Writer {
	return w.add(byte(n))
}

// U16 writes the lowest two bytes of n.
func (w *Writer) U16(n int) *Writer {
	return w.add(byte(n>>8), byte(n))
}

// U32 writes the four bytes of n.
func (w *Writer) U32(n uint32) *Writer {
	return w.add(byte(n>>24), byte(n>>16), byte(n>>8), byte(n))
}

// Put writes bytes as they are.
func (w *Writer) Put(b []byte) *Writer {
	return w.add(b...)
}

// Sized writes bytes behind their length in one byte, if that holds it.
func (w *Writer) Sized(b []byte) bool {
	if w == nil || len(b) > mostSized {
		return false
	}
	w.U8(len(b)).Put(b)
	return true
}

// Long writes bytes behind their length in two bytes, if those hold it.
func (w *Writer) Long(b []byte) bool {
	if w == nil || len(b) > mostLong {
		return false
	}
	w.U16(len(b)).Put(b)
	return true
}

// Bytes is all that was written.
func (w *Writer) Bytes() []byte {
	if w == nil {
		return nil
	}
	return bytes.Clone(w.written)
}

// add writes bytes, one by one or a list of them; a nil writer remains one.
func (w *Writer) add(b ...byte) *Writer {
	if w == nil {
		return nil
	}
	w.written = append(w.written, b...)
	return w
}
