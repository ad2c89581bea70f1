package kern

import (
	"pantry/api"
	"pantry/frames"
	"pantry/object"
	"pantry/tlb"
)

// Resident tells the frames that an anon or an object has, rising.
func (k *Kernel) Resident() []int {
	if !k.isMade() {
		return nil
	}
	var all []int
	for frame := range k.memory.Frames() {
		if f, _ := k.pool.Get(frame); isResident(f) {
			all = append(all, frame)
		}
	}
	return all
}

// Seen tells whether a frame was loaded or stored since it was asked last.
func (k *Kernel) Seen(frame int) bool {
	if !k.isMade() {
		return false
	}
	seen := false
	for p, page := range k.meaning(frame) {
		if p.tables.Clear(page, api.A) != 0 {
			k.found.Flush(tlb.Key{Asid: p.number, VPN: page}) // or what is found there would not be seen again
			seen = true
		}
	}
	return seen
}

// Evict makes a frame free: what it has is in the swap device then, or in its file.
func (k *Kernel) Evict(frame int) api.Errno {
	if !k.isMade() {
		return api.ErrMade
	}
	f, _ := k.pool.Get(frame)
	switch {
	case !isResident(f):
		return api.ErrNone
	case f.Loan > 0 || k.isWired(frame):
		return api.ErrBusy
	case f.Class == frames.File && k.isFile(k.objects.File(f.Owner)):
		return k.backToFile(frame, f)
	}
	place, err := k.swapOut(frame)
	if err != api.OK {
		return err
	}
	k.shutAll(frame)
	if f.Class == frames.Anon {
		k.anons.Put(f.Owner, nowhere, place)
	} else {
		k.objects.Put(f.Owner, f.Index, object.Page{Frame: nowhere, Slot: place})
	}
	k.pool.Give(frame)
	return api.OK
}

// isResident tells whether an anon or an object has a frame.
func isResident(f frames.Frame) bool { return f.Class == frames.Anon || f.Class == frames.File }

// isWired tells whether a page that means what a frame has is wired.
func (k *Kernel) isWired(frame int) bool {
	for p, page := range k.meaning(frame) {
		if e, _ := p.entries.At(page); e.Wired {
			return true
		}
	}
	return false
}

// backToFile makes a frame free that has a page of a file.
func (k *Kernel) backToFile(frame int, f frames.Frame) api.Errno {
	if err := k.clean(f.Owner, f.Index); err != api.OK {
		return err
	}
	k.shutAll(frame)
	k.objects.Drop(f.Owner, f.Index)
	k.pool.Give(frame)
	return api.OK
}

// clean writes a page of a file, that has a frame, into the file, if it has changed.
func (k *Kernel) clean(id, page int) api.Errno {
	x, _ := k.objects.Get(id, page)
	if !x.Dirty {
		return api.OK
	}
	if err := k.files.Write(k.objects.File(id), page, k.memory.Page(x.Frame)); err != api.OK {
		return err
	}
	x.Dirty = false
	k.objects.Put(id, page, x)
	return api.OK
}

// swapOut writes what a frame has to a place of the swap device, and tells which. A place that fails is bad, and another
// one is tried.
func (k *Kernel) swapOut(frame int) (int, api.Errno) {
	err := api.ErrNoMem
	for {
		place, ok := k.slots.Take()
		if !ok {
			return 0, err
		}
		if err = k.device.Write(place, k.memory.Page(frame)); err == api.OK {
			return place, api.OK
		}
		k.slots.Spoil(place)
	}
}
