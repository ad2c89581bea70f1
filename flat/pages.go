package flat

import (
	"slices"

	"pantry/api"
	"pantry/entry"
)

// spotOf is the page of its file that an entry has at a page.
func spotOf(e api.Entry, page int) spot { return spot{e.File, e.Off + page - e.Start} }

// means tells the bytes that a page means, which has that entry; false, if they are gone.
func (w *World) means(p *process, e api.Entry, page int) (*sheet, bool) {
	if b, ok := p.own(page); ok {
		return b, true
	}
	return w.files.find(spotOf(e, page))
}

// look tells the bytes that a process's page means.
func (w *World) look(p *process, page int) (*sheet, api.Errno) {
	if e, ok := p.areas.At(page); ok {
		if b, ok := w.means(p, e, page); ok {
			return b, api.OK
		}
	}
	return nil, api.ErrFault
}

// reach tells the bytes of the page that an operation names, if there is that right to it, and what the operation asks
// for may be.
func (w *World) reach(p *process, o api.Op, right int, may bool) (*sheet, api.Errno) {
	e, ok := p.areas.At(o.Addr)
	switch {
	case !may:
		return nil, api.ErrInval
	case !ok:
		return nil, api.ErrFault
	case e.Prot&right == 0:
		return nil, api.ErrAccess
	}
	return w.look(p, o.Addr)
}

// load tells a byte of a page.
func (w *World) load(p *process, o api.Op) (int, api.Errno) {
	b, err := w.reach(p, o, api.Read, isAt(o.At))
	return b.at(o.At), err
}

// store makes a byte of a page have a value, in the file or in the page's slot.
func (w *World) store(p *process, o api.Op) api.Errno {
	b, err := w.reach(p, o, api.Write, isAt(o.At) && isByte(o.Value))
	if err != api.OK {
		return err
	}
	b = b.with(o.At, o.Value)
	if e, _ := p.areas.At(o.Addr); e.Shared {
		w.files.sheets[spotOf(e, o.Addr)] = b
	} else {
		p.slotAt(o.Addr).bytes = b
	}
	return api.OK
}

// lend keeps the bytes of a page as they are, and tells a handle.
func (w *World) lend(p *process, o api.Op) (int, api.Errno) {
	b, err := w.reach(p, o, api.Read, true)
	switch {
	case err != api.OK:
		return 0, err
	case len(w.loans) >= maxLoans:
		return 0, api.ErrNoMem
	}
	handle := lowest(w.loans)
	w.loans[handle] = b
	return handle, api.OK
}

// peek tells a byte of a page that is lent.
func (w *World) peek(o api.Op) (int, api.Errno) {
	b, ok := w.loans[o.Handle]
	switch {
	case !ok:
		return 0, api.ErrNone
	case !isAt(o.At):
		return 0, api.ErrInval
	}
	return b.at(o.At), api.OK
}

// takeBack makes a page lent no more.
func (w *World) takeBack(o api.Op) api.Errno {
	if _, ok := w.loans[o.Handle]; !ok {
		return api.ErrNone
	}
	delete(w.loans, o.Handle)
	return api.OK
}

// lay makes pages stand in a process's map, and tells where.
func (w *World) lay(p *process, o api.Op) (int, api.Errno) {
	switch {
	case o.File > noFile && !w.files.has(o.File):
		return 0, api.ErrNone
	case o.File == noFile && o.Off != 0:
		return 0, api.ErrInval
	}
	e := api.Entry{End: o.Pages, File: o.File, Off: o.Off, Shared: o.Shared, Prot: o.Prot, Max: allProt}
	if o.Shared {
		e.Inherit = api.Share
	}
	if o.Shared && o.File == noFile {
		e.File = w.region + 1
	}
	addr, gone, err := p.areas.Map(o.Addr, e, o.Fixed)
	if err != api.OK {
		return 0, err
	}
	w.region = max(w.region, e.File) // files' numbers are below those of regions
	p.forget(gone)
	w.forget(gone)
	return addr, api.OK
}

// unmap makes pages go from a process's map.
func (w *World) unmap(p *process, o api.Op) api.Errno {
	gone, err := p.areas.Unmap(o.Addr, o.Pages)
	p.forget(gone)
	w.forget(gone)
	return err
}

// fork makes a child of a process, and tells its number.
func (w *World) fork(p *process) (int, api.Errno) {
	if len(w.procs) >= api.MaxProcs {
		return 0, api.ErrNoMem
	}
	child := newProcess()
	for _, e := range p.areas.Fork().Entries() {
		child.take(p, e)
	}
	proc := lowest(w.procs)
	w.procs[proc] = child
	return proc, api.OK
}

// exit makes a process go.
func (w *World) exit(proc int) api.Errno {
	gone := w.procs[proc].areas.Entries()
	delete(w.procs, proc)
	w.forget(gone)
	return api.OK
}

// forget drops the pages of regions, of entries that went, which no process has any more, as none can get them again.
// Regions come to a process by forks alone: a page of one stands at the same place in all that have it.
func (w *World) forget(gone []api.Entry) {
	for _, e := range gone {
		for page := e.Start; e.File > beforeRegions && page < e.End; page++ {
			s := spotOf(e, page)
			if _, kept := w.files.sheets[s]; kept && !w.isIn(e.File, page) {
				delete(w.files.sheets, s)
			}
		}
	}
}

// isIn tells whether a region has that page of some process.
func (w *World) isIn(region, page int) bool {
	for _, p := range w.procs {
		if e, ok := p.areas.At(page); ok && e.File == region {
			return true
		}
	}
	return false
}

// send gives another process the bytes of pages, in pages of its own, and tells where.
func (w *World) send(p *process, o api.Op) (int, api.Errno) {
	to := w.procs[o.To]
	switch {
	case to == nil:
		return 0, api.ErrNone
	case o.Pages < 1 || o.Pages > api.MaxPages || o.Addr < 0 || o.Addr > api.MaxVPN-o.Pages: // Addr + Pages could wrap
		return 0, api.ErrInval
	}
	sheets, err := w.loadAll(p, o.Addr, o.Addr+o.Pages)
	if err != api.OK {
		return 0, err
	}
	addr, err := w.lay(to, api.Op{Addr: -1, Pages: o.Pages, Prot: api.Read | api.Write})
	if err != api.OK {
		return 0, err
	}
	for k, b := range sheets {
		if b != nil { // noughts stand there anyway
			to.slotAt(addr + k).bytes = b
		}
	}
	return addr, api.OK
}

// loadAll tells what the pages from lo to below hi mean, if all of them may be loaded.
func (w *World) loadAll(p *process, lo, hi int) ([]*sheet, api.Errno) {
	_, cut := entry.Cut(p.areas.Entries(), lo, hi)
	switch {
	case !entry.Whole(cut, lo, hi):
		return nil, api.ErrNoMem
	case slices.ContainsFunc(cut, func(e api.Entry) bool { return e.Prot&api.Read == 0 }):
		return nil, api.ErrAccess
	}
	var sheets []*sheet
	for _, e := range cut {
		for page := e.Start; page < e.End; page++ {
			b, ok := w.means(p, e, page)
			if !ok {
				return nil, api.ErrFault
			}
			sheets = append(sheets, b)
		}
	}
	return sheets, api.OK
}
