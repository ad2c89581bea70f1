package kern

import (
	"pantry/api"
)

const (
	noFile  = 0
	nowhere = -1
)

// home is where the bytes of a page stand: in a frame, at a place of the swap device, or in a file. Those that stand in
// none of these, as those of no file do, and of a region, are noughts.
type home struct {
	frame int
	slot  int
	file  int
	page  int
}

// inFrame is a frame as a home.
func inFrame(frame int) home { return home{frame: frame, slot: nowhere} }

// inSlot is a place of the swap device as a home.
func inSlot(slot int) home { return home{frame: nowhere, slot: slot} }

// pageOf is the page of its file that an entry has at a page.
func pageOf(e api.Entry, page int) int { return e.Off + page - e.Start }

// isFile tells whether there is such a file; a region is none.
func (k *Kernel) isFile(file int) bool {
	_, ok := k.files.Size(file)
	return ok
}

// homeOf tells where the bytes are that a page means, which has that entry; false, if they are gone.
func (k *Kernel) homeOf(p *process, e api.Entry, page int) (home, bool) {
	if a, ok := k.anons.Get(k.anonAt(p, page)); ok {
		return home{frame: a.Frame, slot: a.Slot}, true
	}
	return k.homeIn(e.File, pageOf(e, page))
}

// homeIn tells where the bytes of a page of a file, or of a region, are; false, if they are gone.
func (k *Kernel) homeIn(file, page int) (home, bool) {
	if size, ok := k.files.Size(file); ok && (page < 0 || page >= size) {
		return home{}, false
	}
	if x, ok := k.objects.Get(k.objects.Of(file), page); ok {
		return home{frame: x.Frame, slot: x.Slot}, true
	}
	return home{frame: nowhere, slot: nowhere, file: file, page: page}, true
}

// look tells where the bytes are that a process's page means.
func (k *Kernel) look(p *process, page int) (home, api.Errno) {
	if e, ok := p.entries.At(page); ok {
		if h, ok := k.homeOf(p, e, page); ok {
			return h, api.OK
		}
	}
	return home{}, api.ErrFault
}

// lookIn tells where the bytes of a file's page are, if what is asked for may be.
func (k *Kernel) lookIn(file, page int, may bool) (home, api.Errno) {
	switch {
	case !k.isFile(file):
		return home{}, api.ErrNone
	case !may:
		return home{}, api.ErrInval
	}
	h, ok := k.homeIn(file, page)
	if !ok {
		return home{}, api.ErrFault
	}
	return h, api.OK
}

// read tells the bytes at a home; none of noughts.
func (k *Kernel) read(h home) ([]byte, api.Errno) {
	switch {
	case h.frame != nowhere:
		return k.memory.Page(h.frame), api.OK
	case h.slot != nowhere:
		return k.device.Read(h.slot)
	case k.isFile(h.file):
		return k.files.Read(h.file, h.page)
	}
	return nil, api.OK
}

// peek tells a byte at a home, whatever was planned.
func (k *Kernel) peek(h home, at int) int {
	switch {
	case h.frame != nowhere:
		return k.byteOf(h.frame, at)
	case h.slot != nowhere:
		return int(k.device.Peek(h.slot)[at])
	case k.isFile(h.file):
		return int(k.files.Peek(h.file, h.page)[at])
	}
	return 0
}

// byteOf tells a byte of a frame.
func (k *Kernel) byteOf(frame, at int) int {
	b, _ := k.memory.Byte(frame, at)
	return int(b)
}
