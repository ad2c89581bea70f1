package kern

import (
	"pantry/api"
	"pantry/frames"
	"pantry/pte"
)

// AnonAt is an anon.
type AnonAt struct {
	Id    int
	Refs  int
	Frame int
	Slot  int
}

// AmapAt is an amap: by how many areas each slot is covered, and which anon stands there.
type AmapAt struct {
	Id    int
	Cover []int
	Anons []int
}

// PageAt is a page of an object, at Index.
type PageAt struct {
	Object int
	File   int
	Index  int
	Frame  int
	Slot   int
}

// Leaf is an entry of page tables that leads to a frame.
type Leaf struct {
	Proc  int
	Page  int
	Frame int
	Prot  int
}

// View is what there is.
type View struct {
	Frames []frames.Frame
	Anons  []AnonAt
	Amaps  []AmapAt
	Pages  []PageAt
	Areas  []Area
	Leaves []Leaf
	Tables []int
	Slots  []int
}

// View tells what there is, in new memory.
func (k *Kernel) View() View {
	var v View
	if !k.isMade() {
		return v
	}
	for frame := range k.memory.Frames() {
		f, _ := k.pool.Get(frame)
		v.Frames = append(v.Frames, f)
	}
	for _, id := range k.anons.Ids() {
		a, _ := k.anons.Get(id)
		v.Anons = append(v.Anons, AnonAt{Id: id, Refs: a.Refs, Frame: a.Frame, Slot: a.Slot})
	}
	for _, id := range k.amaps.Ids() {
		v.Amaps = append(v.Amaps, k.amapAt(id))
	}
	for _, id := range k.objects.Ids() {
		for index, x := range k.objects.Pages(id, 0, api.MaxPages) {
			v.Pages = append(v.Pages, PageAt{Object: id, File: k.objects.File(id), Index: index, Frame: x.Frame, Slot: x.Slot})
		}
	}
	for _, number := range k.Procs() {
		p := k.procs[number]
		v.Areas = append(v.Areas, p.areas...)
		v.Tables = append(v.Tables, p.tables.Tables())
		for page, leaf := range p.tables.All() {
			v.Leaves = append(v.Leaves, Leaf{Proc: number, Page: page, Frame: leaf.PPN, Prot: pte.Prot(leaf)})
		}
	}
	for place := range k.device.Places() {
		v.Slots = append(v.Slots, k.slots.State(place))
	}
	return v
}

// amapAt tells an amap slot by slot.
func (k *Kernel) amapAt(id int) AmapAt {
	a := AmapAt{Id: id}
	for slot := range k.amaps.Slots(id) {
		a.Cover = append(a.Cover, k.amaps.Cover(id, slot))
		a.Anons = append(a.Anons, k.amaps.Get(id, slot))
	}
	return a
}
