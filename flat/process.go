package flat

import (
	"pantry/api"
	"pantry/vmap"
)

// slot is what a private page refers to: bytes of its own, or none. Several processes may have one together.
type slot struct{ bytes *sheet }

// process is a map, and slots by their pages, which are private. A slot that is not there has no bytes, and is that one
// process's alone.
type process struct {
	areas *vmap.Map
	slots map[int]*slot
}

func newProcess() *process {
	return &process{areas: vmap.New(), slots: map[int]*slot{}}
}

// slotAt is the one that a private page refers to. It is there from then on.
func (p *process) slotAt(page int) *slot {
	if p.slots[page] == nil {
		p.slots[page] = &slot{}
	}
	return p.slots[page]
}

// own tells the bytes that a page's slot has; false, if it has none.
func (p *process) own(page int) (*sheet, bool) {
	s, ok := p.slots[page]
	if !ok || s.bytes == nil {
		return nil, false
	}
	return s.bytes, true
}

// advise says how pages are used; of those that are not needed any more the slots lose their bytes.
func (p *process) advise(o api.Op) api.Errno {
	err := p.areas.Advise(o.Addr, o.Pages, o.How)
	if err != api.OK || o.How != api.DontNeed {
		return err
	}
	for page := o.Addr; page < o.Addr+o.Pages; page++ {
		if s, ok := p.slots[page]; ok {
			s.bytes = nil // whoever has the slot, too
		}
	}
	return api.OK
}

// forget drops the slots of entries that went.
func (p *process) forget(gone []api.Entry) {
	for _, e := range gone {
		for page := e.Start; page < e.End; page++ {
			delete(p.slots, page)
		}
	}
}

// take gives a child an entry of its parent's, and the slots that its pages have there. An entry of more pages than a
// map takes at once isn't given.
func (p *process) take(parent *process, e api.Entry) {
	shared := e.Shared
	if e.Inherit == api.Copy {
		e.Shared = false
	}
	if _, _, err := p.areas.Map(e.Start, e, true); err != api.OK || shared {
		return
	}
	for page := e.Start; page < e.End; page++ {
		if e.Inherit == api.Share {
			p.slots[page] = parent.slotAt(page)
		} else if b, ok := parent.own(page); ok {
			p.slots[page] = &slot{b}
		}
	}
}

// copied is a process that is alike; twins has the slots that were copied, by those that they are copies of.
func (p *process) copied(twins map[*slot]*slot) *process {
	c := &process{areas: copiedMap(p.areas), slots: map[int]*slot{}}
	for page, s := range p.slots {
		if twins[s] == nil {
			twins[s] = &slot{s.bytes}
		}
		c.slots[page] = twins[s]
	}
	return c
}

// copiedMap is a map that is alike. An entry is laid piece by piece, as one that was merged of several may have more pages
// than a map takes at once; such a one has no file, and so no Off that would go on.
func copiedMap(m *vmap.Map) *vmap.Map {
	c := vmap.New()
	for _, e := range m.Entries() {
		for piece := e; piece.Start < e.End; piece.Start = piece.End {
			piece.End = min(piece.Start+api.MaxPages, e.End)
			c.Map(piece.Start, piece, true)
		}
	}
	return c
}
