package kern

import (
	"pantry/api"
)

// reach tells the entry of the page that an operation names, if there is that right to it, what the operation asks for
// may be, and what the page means is there.
func (k *Kernel) reach(p *process, o api.Op, right int, may bool) (api.Entry, api.Errno) {
	e, ok := p.entries.At(o.Addr)
	switch {
	case !may:
		return api.Entry{}, api.ErrInval
	case !ok:
		return api.Entry{}, api.ErrFault
	case e.Prot&right == 0:
		return api.Entry{}, api.ErrAccess
	}
	_, err := k.look(p, o.Addr)
	return e, err
}

// load tells a byte of a page.
func (k *Kernel) load(p *process, o api.Op) (int, api.Errno) {
	e, err := k.reach(p, o, api.Read, isAt(o.At))
	if err != api.OK {
		return 0, err
	}
	frame, err := k.touch(p, e, o.Addr, api.Read)
	if err != api.OK {
		return 0, err
	}
	return k.byteOf(frame, o.At), api.OK
}

// store makes a byte of a page have a value.
func (k *Kernel) store(p *process, o api.Op) api.Errno {
	e, err := k.reach(p, o, api.Write, isAt(o.At) && isByte(o.Value))
	if err != api.OK {
		return err
	}
	frame, err := k.touch(p, e, o.Addr, api.Write)
	if err == api.OK {
		k.memory.SetByte(frame, o.At, byte(o.Value))
	}
	return err
}

// touch tells the frame of a page that is loaded or stored, which its page tables lead to from then on.
func (k *Kernel) touch(p *process, e api.Entry, page, access int) (int, api.Errno) {
	if frame, ok := k.translate(p, page, access); ok {
		return frame, api.OK
	}
	find, prot := k.toLoad, e.Prot&^api.Write
	if access == api.Write {
		find, prot = k.toStore, e.Prot
	}
	frame, err := find(p, e, page, k.lacking(p, page))
	if err != api.OK {
		return 0, err
	}
	if err := p.tables.Enter(page, frame, prot); err != api.OK {
		return 0, err
	}
	frame, _ = k.translate(p, page, access)
	return frame, api.OK
}

// toLoad makes what a page means have a frame, and tells which. Noughts of no file become an anon's.
func (k *Kernel) toLoad(p *process, e api.Entry, page, spare int) (int, api.Errno) {
	if id := k.anonAt(p, page); id != noAnon {
		return k.bringAnon(id, spare)
	}
	if e.File != noFile {
		return k.bring(e.File, pageOf(e, page), spare)
	}
	return k.fresh(p, e, page, spare)
}

// toStore makes a page mean a frame that nobody has who is not to see what is stored there, and tells which.
func (k *Kernel) toStore(p *process, e api.Entry, page, spare int) (int, api.Errno) {
	if e.Shared {
		return k.change(e.File, pageOf(e, page), spare)
	}
	if err := k.own(p, page); err != api.OK {
		return 0, err
	}
	if id := k.anonAt(p, page); k.isAlone(id) {
		return k.bringAnon(id, spare)
	}
	return k.fresh(p, e, page, spare)
}

// fresh makes an anon of the bytes that a private page means stand in the page's slot, and tells its frame.
func (k *Kernel) fresh(p *process, e api.Entry, page, spare int) (int, api.Errno) {
	from, _ := k.homeOf(p, e, page)
	id, frame, err := k.makeAnon(from, spare)
	if err != api.OK {
		return 0, err
	}
	a, err := k.areaAt(p, e, page)
	if err != api.OK {
		k.letGo(id)
		return 0, err
	}
	k.replace(a.Amap, a.slotOf(page), id)
	return frame, api.OK
}

// isAlone tells whether an anon is held by one slot alone, and its frame is not lent.
func (k *Kernel) isAlone(id int) bool {
	a, _ := k.anons.Get(id)
	return a.Refs == 1 && !k.isLent(a.Frame)
}
