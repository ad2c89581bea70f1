package flat

import "pantry/api"

// sheet is a page's bytes. They never change: a store makes another sheet. So slots, files, loans and copies of a world
// may have a sheet together, and what is copied costs nothing till it is stored into. nil is a sheet of noughts.
type sheet [api.PageSize]byte

// at tells a byte.
func (b *sheet) at(at int) int {
	if b == nil {
		return 0
	}
	return int(b[at])
}

// with makes a sheet of which one byte is another one.
func (b *sheet) with(at, value int) *sheet {
	other := new(sheet)
	if b != nil {
		*other = *b
	}
	other[at] = byte(value)
	return other
}
