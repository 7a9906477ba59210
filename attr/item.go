package attr

import (
	"confluence/api"
	"confluence/octet"
)

// The bits of flags, from the lowest one that has a meaning.
const (
	flagLong       = 1 << (4 + iota) // flagLong says that the length has two bytes.
	flagPartial                      // flagPartial says that somebody on the way did not know the type.
	flagTransitive                   // flagTransitive says that one who does not know the type tells it on.
	flagOptional                     // flagOptional says that one need not know the type.
)

// Flags of types.
const (
	flagsWell  = flagTransitive
	flagsLocal = flagOptional
	flagsOn    = flagOptional | flagTransitive
)

const (
	mostShort = 1<<8 - 1 // mostShort is how many bytes a value has at most whose length has one byte.
	wide      = 4        // wide is how many bytes a number of an autonomous system, an address, or a community has.
)

// shapes are the flags of each type and, where it is always the same, how many bytes its value has.
var shapes = [api.Types + 1]struct{ flags, size int }{
	api.TOrigin:     {flagsWell, 1},
	api.TPath:       {flags: flagsWell},
	api.THop:        {flagsWell, wide},
	api.TMed:        {flagsLocal, wide},
	api.TPref:       {flagsWell, wide},
	api.TAtomic:     {flagsWell, 0},
	api.TAggregator: {flagsOn, 2 * wide},
	api.TComms:      {flags: flagsOn},
}

// item is an attribute as it stands in a message: its flags, its type, and the bytes of its value.
type item struct {
	flags, kind int
	value       []byte
}

// Flags is the flags of a type; one that there is not has none.
func Flags(kind int) int {
	if !known(kind) {
		return 0
	}
	return shapes[kind].flags
}

// known tells whether a type is one of the eight.
func known(kind int) bool {
	return kind >= api.TOrigin && kind <= api.Types
}

// fits tells whether a value of one of the eight types may have size bytes.
func fits(kind, size int) bool {
	switch kind {
	case api.TPath:
		return true
	case api.TComms:
		return size%wide == 0 && size/wide <= api.MaxComms
	}
	return size == shapes[kind].size
}

// put writes an attribute with the length that its flags ask for.
func (x item) put(w *octet.Writer) {
	w.U8(x.flags).U8(x.kind)
	if x.flags&flagLong != 0 {
		w.Long(x.value)
	} else {
		w.Sized(x.value)
	}
}

// next reads an attribute, of whatever type.
func next(r *octet.Reader) item {
	var x item
	x.flags = r.U8()
	x.kind = r.U8()
	size := 0
	if x.flags&flagLong != 0 {
		size = r.U16()
	} else {
		size = r.U8()
	}
	x.value = r.Take(size)
	return x
}
