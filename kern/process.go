package kern

import (
	"iter"
	"slices"
	"sort"

	"pantry/api"
	"pantry/frames"
	"pantry/pmap"
	"pantry/pte"
	"pantry/tlb"
	"pantry/vmap"
	"pantry/walk"
)

// What chapter 3 calls an entry that leads to another table.
const isTable = 1

// process is a map, page tables, and the areas of its private pages, in order. A page without an area has a slot without
// bytes, which is that one process's alone.
type process struct {
	number  int
	entries *vmap.Map
	tables  *pmap.Map
	areas   []Area
}

// newProcess makes a process without pages, which the kernel has not yet.
func (k *Kernel) newProcess(number int) (*process, api.Errno) {
	tables, err := pmap.New(k.memory, k.pool, number)
	if err != api.OK {
		return nil, err
	}
	return &process{number: number, entries: vmap.New(), tables: tables}, api.OK
}

// end takes away all that a process has in frames and at places, but not what regions have.
func (k *Kernel) end(p *process) {
	p.tables.Close()
	k.found.FlushAsid(p.number)
	for _, a := range p.areas {
		k.drop(a)
	}
}

// find tells the place of the area that has a page; false and the place of the first one behind it, if none has.
func (p *process) find(page int) (int, bool) {
	i := sort.Search(len(p.areas), func(i int) bool { return page < p.areas[i].Hi })
	return i, i < len(p.areas) && p.areas[i].Lo <= page
}

// clip makes two of the area that has a page, and one ahead of it.
func (p *process) clip(page int) {
	i, ok := p.find(page)
	if !ok || p.areas[i].Lo == page {
		return
	}
	low, high := p.areas[i], p.areas[i]
	low.Hi, high.Lo, high.Slot = page, page, low.slotOf(page)
	p.areas = slices.Replace(p.areas, i, i+1, low, high)
}

// cut clips the areas from lo to below hi, and tells them.
func (p *process) cut(lo, hi int) []Area {
	p.clip(lo)
	p.clip(hi)
	first, _ := p.find(lo)
	behind, _ := p.find(hi)
	return slices.Clone(p.areas[first:behind])
}

// set makes an area what another one of the same pages is.
func (p *process) set(a Area) {
	i, _ := p.find(a.Lo)
	p.areas[i] = a
}

// add makes a process have another area, where it has none.
func (p *process) add(a Area) {
	i, _ := p.find(a.Lo)
	a.Proc = p.number
	p.areas = slices.Insert(p.areas, i, a)
}

// lacking tells how many tables lack on the way to a page.
func (k *Kernel) lacking(p *process, page int) int {
	if _, _, ok := walk.Place(k.memory, p.tables.Root(), page); ok {
		return 0
	}
	top, _ := k.memory.Word(p.tables.Root(), pte.Index(page, 2))
	if pte.Kind(pte.Decode(top)) == isTable {
		return 1
	}
	return 2
}

// translate tells the frame to which a page's leaf leads, if that allows the access.
func (k *Kernel) translate(p *process, page, access int) (int, bool) {
	key := tlb.Key{Asid: p.number, VPN: page}
	if leaf, ok := k.found.Find(key); ok && pte.May(leaf, access, true) {
		return leaf.PPN, true
	}
	what, frame, _ := walk.Walk(k.memory, p.tables.Root(), page<<api.PageBits, access, true)
	if what != walk.Found {
		return 0, false
	}
	leaf, _ := p.tables.Find(page)
	k.found.Put(key, leaf)
	return frame, true
}

// shut makes a page lead nowhere.
func (k *Kernel) shut(p *process, page int) {
	k.found.Flush(tlb.Key{Asid: p.number, VPN: page})
	p.tables.Remove(page)
}

// narrow takes the rights that prot has not away from a page's leaf.
func (k *Kernel) narrow(p *process, page, prot int) {
	k.found.Flush(tlb.Key{Asid: p.number, VPN: page})
	leaf, _ := p.tables.Find(page)
	p.tables.Protect(page, pte.Prot(leaf)&prot)
}

// leaves tells the pages from lo to below hi that have a leaf, with these.
func (p *process) leaves(lo, hi int) iter.Seq2[int, api.PTE] {
	return func(yield func(int, api.PTE) bool) {
		for page, leaf := range p.tables.All() {
			if page >= lo && page < hi && !yield(page, leaf) {
				return
			}
		}
	}
}

// shutBetween makes the pages from lo to below hi lead nowhere.
func (k *Kernel) shutBetween(p *process, lo, hi int) {
	for page := range p.leaves(lo, hi) {
		k.shut(p, page)
	}
}

// dropBetween makes the pages from lo to below hi have no slots any more.
func (k *Kernel) dropBetween(p *process, lo, hi int) {
	gone := p.cut(lo, hi)
	i, _ := p.find(lo)
	p.areas = slices.Delete(p.areas, i, i+len(gone))
	for _, a := range gone {
		k.drop(a)
	}
}

// freeze takes the right to store away from the leaves of all pages that may not be stored to just so any more.
func (k *Kernel) freeze() {
	for _, p := range k.procs {
		for page, leaf := range p.leaves(0, api.MaxVPN) {
			if leaf.Flags&api.W != 0 && !k.mayStore(p, page, leaf.PPN) {
				k.narrow(p, page, allProt&^api.Write)
			}
		}
	}
}

// mayStore tells whether a store to a page may go to its frame, which is not lent, just so.
func (k *Kernel) mayStore(p *process, page, frame int) bool {
	f, _ := k.pool.Get(frame)
	if f.Class == frames.File {
		x, _ := k.objects.Get(f.Owner, f.Index)
		return x.Dirty // or it would not be known that it changes
	}
	i, _ := p.find(page)
	a, _ := k.anons.Get(f.Owner)
	return a.Refs == 1 && !p.areas[i].Needs
}
