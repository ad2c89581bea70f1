package kern

import (
	"slices"

	"pantry/api"
	"pantry/entry"
)

// send gives another process the bytes of pages, in pages of its own, and tells where.
func (k *Kernel) send(p *process, o api.Op) (int, api.Errno) {
	to := k.procs[o.To]
	switch {
	case to == nil:
		return 0, api.ErrNone
	case o.Pages < 1 || o.Pages > api.MaxPages || o.Addr < 0 || o.Addr > api.MaxVPN-o.Pages: // Addr + Pages could wrap
		return 0, api.ErrInval
	}
	if err := k.mayLoad(p, o.Addr, o.Addr+o.Pages); err != api.OK {
		return 0, err
	}
	if _, ok := entry.Space(to.entries.Entries(), 0, o.Pages); !ok {
		return 0, api.ErrNoMem
	}
	anons, err := k.twins(p, o.Addr, o.Pages)
	if err != api.OK {
		return 0, err
	}
	amap, err := k.parcel(anons)
	if err != api.OK {
		return 0, err
	}
	addr, _ := k.lay(to, api.Op{Addr: -1, Pages: o.Pages, Prot: api.Read | api.Write}) // there is space
	if amap != noAmap {
		to.add(Area{Lo: addr, Hi: addr + o.Pages, Amap: amap})
		k.freeze() // what both have is stored to by none of them
	}
	return addr, api.OK
}

// mayLoad tells what is wrong with loads of the pages from lo to below hi.
func (k *Kernel) mayLoad(p *process, lo, hi int) api.Errno {
	_, cut := entry.Cut(p.entries.Entries(), lo, hi)
	switch {
	case !entry.Whole(cut, lo, hi):
		return api.ErrNoMem
	case slices.ContainsFunc(cut, func(e api.Entry) bool { return e.Prot&api.Read == 0 }):
		return api.ErrAccess
	}
	for page := lo; page < hi; page++ {
		if _, err := k.look(p, page); err != api.OK {
			return err
		}
	}
	return api.OK
}

// twins tells anons, each held once more, that have the bytes of pages.
func (k *Kernel) twins(p *process, lo, pages int) ([]int, api.Errno) {
	anons := make([]int, pages)
	for i := range anons {
		id, err := k.twin(p, lo+i)
		if err != api.OK {
			k.letGo(anons...)
			return nil, err
		}
		anons[i] = id
	}
	return anons, api.OK
}

// twin tells an anon, held once more, that has the bytes of a page that isn't gone: the page's own, if it may be held as
// often. Of noughts that stand nowhere there is none.
func (k *Kernel) twin(p *process, page int) (int, api.Errno) {
	id := k.anonAt(p, page)
	if _, err := k.anons.Ref(id, 1); err == api.OK {
		return id, api.OK
	}
	h, _ := k.look(p, page)
	if h.frame == nowhere && h.slot == nowhere && !k.isFile(h.file) {
		return noAnon, api.OK
	}
	id, _, err := k.makeAnon(h, 0)
	return id, err
}

// parcel makes an amap in which anons stand, and tells its number; 0, if they are none. If it can't, nobody holds them.
func (k *Kernel) parcel(anons []int) (int, api.Errno) {
	if !slices.ContainsFunc(anons, func(id int) bool { return id != noAnon }) {
		return noAmap, api.OK
	}
	amap, err := k.amaps.Make(len(anons))
	if err != api.OK {
		k.letGo(anons...)
		return noAmap, err
	}
	for slot, id := range anons {
		k.amaps.Set(amap, slot, id)
	}
	return amap, api.OK
}
