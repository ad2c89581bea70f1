package kern

import (
	"pantry/api"
)

// lay makes pages stand in a process's map, and tells where.
func (k *Kernel) lay(p *process, o api.Op) (int, api.Errno) {
	switch {
	case o.File > noFile && !k.isFile(o.File):
		return 0, api.ErrNone
	case o.File == noFile && o.Off != 0:
		return 0, api.ErrInval
	}
	e := api.Entry{End: o.Pages, File: o.File, Off: o.Off, Shared: o.Shared, Prot: o.Prot, Max: allProt}
	if o.Shared {
		e.Inherit = api.Share
	}
	if o.Shared && o.File == noFile {
		e.File = k.region + 1
	}
	addr, gone, err := p.entries.Map(o.Addr, e, o.Fixed)
	if err != api.OK {
		return 0, err
	}
	k.region = max(k.region, e.File) // files' numbers are below those of regions
	k.clear(p, gone)
	return addr, api.OK
}

// unmap makes pages go from a process's map.
func (k *Kernel) unmap(p *process, o api.Op) api.Errno {
	gone, err := p.entries.Unmap(o.Addr, o.Pages)
	k.clear(p, gone)
	return err
}

// clear takes away what the pages of entries have that went from a process's map.
func (k *Kernel) clear(p *process, gone []api.Entry) {
	if len(gone) == 0 {
		return
	}
	lo, hi := gone[0].Start, gone[len(gone)-1].End // between them nothing else stood
	k.shutBetween(p, lo, hi)
	k.dropBetween(p, lo, hi)
	k.forget(gone)
}

// forget takes away the pages of regions, of entries that went, which no process has any more, as none can get them
// again. Regions come to a process by forks alone: a page of one stands at the same place in all that have it.
func (k *Kernel) forget(gone []api.Entry) {
	for _, e := range gone {
		if e.File <= beforeRegions {
			continue
		}
		id := k.objects.Of(e.File)
		for index, x := range k.objects.Pages(id, e.Off, pageOf(e, e.End)) {
			if !k.isIn(e.File, e.Start+index-e.Off) {
				k.objects.Drop(id, index)
				k.discard(x.Frame, x.Slot)
			}
		}
	}
}

// isIn tells whether a region has that page of some process.
func (k *Kernel) isIn(region, page int) bool {
	for _, p := range k.procs {
		if e, ok := p.entries.At(page); ok && e.File == region {
			return true
		}
	}
	return false
}

// protect says what may be done with pages. Their leaves allow no more than that.
func (k *Kernel) protect(p *process, o api.Op) api.Errno {
	err := p.entries.Protect(o.Addr, o.Pages, o.Prot)
	if err == api.OK {
		for page := range p.leaves(o.Addr, o.Addr+o.Pages) {
			k.narrow(p, page, o.Prot)
		}
	}
	return err
}

// advise says how pages are used. Slots that are not needed any more are empty then, whoever has them.
func (k *Kernel) advise(p *process, o api.Op) api.Errno {
	err := p.entries.Advise(o.Addr, o.Pages, o.How)
	if err != api.OK || o.How != api.DontNeed {
		return err
	}
	for _, a := range p.cut(o.Addr, o.Addr+o.Pages) {
		if a.Needs || k.isSole(a) {
			k.shutBetween(p, a.Lo, a.Hi)
			k.dropBetween(p, a.Lo, a.Hi)
		} else {
			k.empty(a)
		}
	}
	return api.OK
}

// empty takes the anons out of the slots of an area.
func (k *Kernel) empty(a Area) {
	lo, hi := a.slots()
	for slot := range k.amaps.Used(a.Amap) {
		if slot >= lo && slot < hi {
			k.replace(a.Amap, slot, noAnon)
		}
	}
}
