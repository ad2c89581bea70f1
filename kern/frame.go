package kern

import (
	"iter"

	"pantry/api"
	"pantry/frames"
	"pantry/object"
)

// fill takes a frame that has the bytes at a home, and leaves so many spare ones for tables. It has no owner yet.
func (k *Kernel) fill(class int, from home, spare int) (int, api.Errno) {
	if k.pool.Free() <= spare {
		return 0, api.ErrNoMem
	}
	frame, err := k.pool.Take(class, 0, 0)
	if err != api.OK {
		return 0, err
	}
	bytes, err := k.read(from)
	if err != api.OK {
		k.pool.Give(frame)
		return 0, err
	}
	k.memory.Fill(frame, bytes)
	return frame, api.OK
}

// makeAnon makes an anon of the bytes at a home, and tells its number and its frame. There is always a number, as there
// are fewer frames and places than anons may be.
func (k *Kernel) makeAnon(from home, spare int) (int, int, api.Errno) {
	frame, err := k.fill(frames.Anon, from, spare)
	if err != api.OK {
		return noAnon, 0, err
	}
	id, _ := k.anons.Make(frame)
	k.pool.Own(frame, frames.Anon, id, 0)
	return id, frame, api.OK
}

// bringAnon makes an anon have a frame, and tells which.
func (k *Kernel) bringAnon(id, spare int) (int, api.Errno) {
	a, _ := k.anons.Get(id)
	if a.Frame != nowhere {
		return a.Frame, api.OK
	}
	frame, err := k.fill(frames.Anon, inSlot(a.Slot), spare)
	if err != api.OK {
		return 0, err
	}
	k.pool.Own(frame, frames.Anon, id, 0)
	k.anons.Put(id, frame, nowhere)
	k.slots.Give(a.Slot)
	return frame, api.OK
}

// letGo makes anons be held once less, and takes away what those had that nobody holds.
func (k *Kernel) letGo(anons ...int) {
	for _, id := range anons {
		if a, err := k.anons.Ref(id, -1); err == api.OK && a.Refs == 0 { // a slot had none, perhaps
			k.discard(a.Frame, a.Slot)
		}
	}
}

// bring makes a page of a file, or of a region, that isn't gone have a frame, and tells which.
func (k *Kernel) bring(file, page, spare int) (int, api.Errno) {
	h, _ := k.homeIn(file, page)
	if h.frame != nowhere {
		return h.frame, api.OK
	}
	id := k.objects.Of(file)
	if id == noObject { // there are fewer frames and places than objects may be
		id, _ = k.objects.Make(file)
		defer k.objects.Ref(id, -1) // its pages keep it: one that gets none goes
	}
	frame, err := k.fill(frames.File, h, spare)
	if err != api.OK {
		return 0, err
	}
	k.pool.Own(frame, frames.File, id, page)
	k.objects.Put(id, page, object.Page{Frame: frame, Slot: nowhere})
	k.slots.Give(h.slot)
	return frame, api.OK
}

// change makes a page of a file, or of a region, that isn't gone have a frame that may be stored to, and tells which.
func (k *Kernel) change(file, page, spare int) (int, api.Errno) {
	frame, err := k.bring(file, page, spare)
	if err == api.OK && k.isLent(frame) {
		frame, err = k.leave(frame, spare)
	}
	if err != api.OK {
		return 0, err
	}
	k.objects.Put(k.objects.Of(file), page, object.Page{Frame: frame, Slot: nowhere, Dirty: true})
	return frame, api.OK
}

// leave gives the page of an object that has a frame, which is lent, another one, and tells which.
func (k *Kernel) leave(frame, spare int) (int, api.Errno) {
	other, err := k.fill(frames.File, inFrame(frame), spare)
	if err != api.OK {
		return 0, err
	}
	k.shutAll(frame)
	f, _ := k.pool.Get(frame)
	k.pool.Own(other, f.Class, f.Owner, f.Index)
	k.discard(frame, nowhere)
	return other, api.OK
}

// discard takes a frame and a place away, if they are any, that nobody has any more. A frame that is lent stays till it
// is back.
func (k *Kernel) discard(frame, slot int) {
	k.slots.Give(slot)
	if k.isLent(frame) {
		k.pool.Own(frame, frames.Loose, 0, 0)
	} else {
		k.pool.Give(frame)
	}
}

// isLent tells whether a frame is lent.
func (k *Kernel) isLent(frame int) bool {
	f, _ := k.pool.Get(frame)
	return f.Loan > 0
}

// meaning tells the processes, and their pages, that mean what a frame has.
func (k *Kernel) meaning(frame int) iter.Seq2[*process, int] {
	f, _ := k.pool.Get(frame)
	return func(yield func(*process, int) bool) {
		for _, p := range k.procs {
			for _, page := range k.pagesOf(p, f) {
				if !yield(p, page) {
					return
				}
			}
		}
	}
}

// pagesOf tells the pages of a process that mean what a frame has.
func (k *Kernel) pagesOf(p *process, f frames.Frame) []int {
	switch f.Class {
	case frames.Anon:
		return k.ofAnon(p, f.Owner)
	case frames.File:
		return k.ofObject(p, f.Owner, f.Index)
	}
	return nil
}

// ofAnon tells the pages of a process in whose slots an anon stands.
func (k *Kernel) ofAnon(p *process, id int) []int {
	var pages []int
	for _, a := range p.areas {
		lo, hi := a.slots()
		for slot, anon := range k.amaps.Used(a.Amap) {
			if anon == id && slot >= lo && slot < hi {
				pages = append(pages, a.Lo+slot-lo)
			}
		}
	}
	return pages
}

// ofObject tells the pages of a process that mean a page of an object.
func (k *Kernel) ofObject(p *process, id, index int) []int {
	file := k.objects.File(id)
	var pages []int
	for _, e := range p.entries.Entries() {
		page := e.Start + index - e.Off
		if e.File == file && page >= e.Start && page < e.End && k.anonAt(p, page) == noAnon {
			pages = append(pages, page)
		}
	}
	return pages
}

// shutAll makes all pages that mean what a frame has lead nowhere.
func (k *Kernel) shutAll(frame int) {
	for p, page := range k.meaning(frame) {
		k.shut(p, page)
	}
}
