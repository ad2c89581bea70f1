package kern

import (
	"iter"
	"slices"

	"pantry/api"
)

// What no anon, amap and object has as its number.
const (
	noAnon   = 0
	noAmap   = 0
	noObject = 0
)

// Area is pages of a process that have an amap's slots: page Lo has Slot, and so on up to below Hi. Of one that Needs,
// what is stored goes into an amap of its own first. The areas that have a slot together either all Need, so that
// the slot stays as it is till one of them is left, or none does, and they mean the slot itself.
type Area struct {
	Proc  int
	Lo    int
	Hi    int
	Amap  int
	Slot  int
	Needs bool
}

// slotOf tells the slot that a page of the area has.
func (a Area) slotOf(page int) int { return a.Slot + page - a.Lo }

// slots tells the area's first slot, and the one behind its last.
func (a Area) slots() (int, int) { return a.Slot, a.slotOf(a.Hi) }

// areaAt tells the area of a private page. It is there from then on: one for all pages around, of the page's entry, that
// have none, but no more than an amap has slots.
func (k *Kernel) areaAt(p *process, e api.Entry, page int) (Area, api.Errno) {
	i, ok := p.find(page)
	if ok {
		return p.areas[i], api.OK
	}
	lo, hi := e.Start, e.End
	if i > 0 {
		lo = max(lo, p.areas[i-1].Hi)
	}
	if i < len(p.areas) {
		hi = min(hi, p.areas[i].Lo)
	}
	lo += (page - lo) / api.MaxItems * api.MaxItems
	hi = min(hi, lo+api.MaxItems)
	id, err := k.amaps.Make(hi - lo)
	if err != api.OK {
		return Area{}, err
	}
	a := Area{Lo: lo, Hi: hi, Amap: id}
	p.add(a)
	return a, api.OK
}

// own makes the area of a page, if it has one, Need nothing.
func (k *Kernel) own(p *process, page int) api.Errno {
	i, ok := p.find(page)
	switch {
	case !ok || !p.areas[i].Needs:
		return api.OK
	case k.isSole(p.areas[i]):
		p.areas[i].Needs = false
		return api.OK
	}
	other, err := k.copied(p.areas[i])
	if err == api.OK {
		k.drop(p.areas[i])
		p.areas[i] = other
	}
	return err
}

// isSole tells whether no other area has one of the slots of an area.
func (k *Kernel) isSole(a Area) bool {
	lo, hi := a.slots()
	for slot := lo; slot < hi; slot++ {
		if k.amaps.Cover(a.Amap, slot) > 1 {
			return false
		}
	}
	return true
}

// copied is an area with an amap of its own, in which the same anons stand.
func (k *Kernel) copied(a Area) (Area, api.Errno) {
	lo, hi := a.slots()
	id, anons, err := k.amaps.Copy(a.Amap, lo, hi)
	if err != api.OK {
		return Area{}, err
	}
	own := Area{Proc: a.Proc, Lo: a.Lo, Hi: a.Hi, Amap: id}
	for i, anon := range anons {
		if _, err := k.anons.Ref(anon, 1); err != api.OK { // it is held as often as it may be
			k.amaps.Drop(id, 0, hi-lo)
			k.letGo(anons[:i]...)
			return Area{}, api.ErrNoMem
		}
	}
	return own, api.OK
}

// hold makes a process have the slots of another one's area.
func (k *Kernel) hold(p *process, a Area) {
	lo, hi := a.slots()
	k.amaps.Hold(a.Amap, lo, hi)
	p.add(a)
}

// drop makes an area have its slots no more.
func (k *Kernel) drop(a Area) {
	lo, hi := a.slots()
	anons, _ := k.amaps.Drop(a.Amap, lo, hi)
	k.letGo(anons...)
}

// replace makes an anon, or none, stand in a slot. The pages that mean the slot lead nowhere till they are used again.
func (k *Kernel) replace(amap, slot, id int) {
	for p, page := range k.having(amap, slot) {
		k.shut(p, page)
	}
	old, _ := k.amaps.Set(amap, slot, id)
	k.letGo(old)
}

// anonAt tells the anon in the slot of a page; 0, if there is none.
func (k *Kernel) anonAt(p *process, page int) int {
	i, ok := p.find(page)
	if !ok {
		return noAnon
	}
	return k.amaps.Get(p.areas[i].Amap, p.areas[i].slotOf(page))
}

// having tells the processes, and their pages, that have a slot.
func (k *Kernel) having(amap, slot int) iter.Seq2[*process, int] {
	return func(yield func(*process, int) bool) {
		for _, p := range k.procs {
			i := slices.IndexFunc(p.areas, func(a Area) bool {
				lo, hi := a.slots()
				return a.Amap == amap && slot >= lo && slot < hi
			})
			if i >= 0 && !yield(p, p.areas[i].Lo+slot-p.areas[i].Slot) {
				return
			}
		}
	}
}
