package kern_test

import (
	"fmt"
	"slices"

	"pantry/api"
	"pantry/frames"
	"pantry/kern"
)

// counted tells what a view has that a count anew says otherwise; nothing, if all is right. entries tells a process's.
func counted(v kern.View, procs []int, entries func(proc int) []api.Entry) []string {
	var wrong []string
	say := func(ok bool, what string, args ...any) {
		if !ok {
			wrong = append(wrong, fmt.Sprintf(what, args...))
		}
	}
	countAnons(v, say)
	countCovers(v, say)
	countFrames(v, say)
	countPlaces(v, say)
	countOrder(v, procs, say)
	countAreas(v, entries, say)
	countLeaves(v, entries, say)
	return wrong
}

type sayer func(ok bool, what string, args ...any)

// anonOf tells an anon of a view.
func anonOf(v kern.View, id int) (kern.AnonAt, bool) {
	k := slices.IndexFunc(v.Anons, func(a kern.AnonAt) bool { return a.Id == id })
	if k < 0 {
		return kern.AnonAt{}, false
	}
	return v.Anons[k], true
}

// amapOf tells an amap of a view.
func amapOf(v kern.View, id int) (kern.AmapAt, bool) {
	k := slices.IndexFunc(v.Amaps, func(a kern.AmapAt) bool { return a.Id == id })
	if k < 0 {
		return kern.AmapAt{}, false
	}
	return v.Amaps[k], true
}

// areaOf tells the area that a page has in a view.
func areaOf(v kern.View, proc, page int) (kern.Area, bool) {
	k := slices.IndexFunc(v.Areas, func(a kern.Area) bool { return a.Proc == proc && a.Lo <= page && page < a.Hi })
	if k < 0 {
		return kern.Area{}, false
	}
	return v.Areas[k], true
}

// pageOf tells a page of a file or a region in a view.
func pageOf(v kern.View, file, index int) (kern.PageAt, bool) {
	k := slices.IndexFunc(v.Pages, func(x kern.PageAt) bool { return x.File == file && x.Index == index })
	if k < 0 {
		return kern.PageAt{}, false
	}
	return v.Pages[k], true
}

// slotOf tells the anon that stands in the slot of a page; 0, if none does.
func slotOf(v kern.View, proc, page int) int {
	a, ok := areaOf(v, proc, page)
	if !ok {
		return 0
	}
	m, _ := amapOf(v, a.Amap)
	return m.Anons[a.Slot+page-a.Lo]
}

// entryOf tells the entry that has a page.
func entryOf(l []api.Entry, page int) (api.Entry, bool) {
	k := slices.IndexFunc(l, func(e api.Entry) bool { return e.Start <= page && page < e.End })
	if k < 0 {
		return api.Entry{}, false
	}
	return l[k], true
}

// frameOf tells the frame that a page means in a view; -1, if that has none.
func frameOf(v kern.View, entries []api.Entry, proc, page int) int {
	if id := slotOf(v, proc, page); id != 0 {
		a, _ := anonOf(v, id)
		return a.Frame
	}
	if e, ok := entryOf(entries, page); ok {
		if x, ok := pageOf(v, e.File, e.Off+page-e.Start); ok {
			return x.Frame
		}
	}
	return -1
}

func countAnons(v kern.View, say sayer) {
	held := map[int]int{}
	for _, m := range v.Amaps {
		for _, id := range m.Anons {
			if id != 0 {
				held[id]++
			}
		}
	}
	for _, a := range v.Anons {
		say(a.Refs > 0 && a.Refs == held[a.Id], "anon %+v is held by %d slots", a, held[a.Id])
		delete(held, a.Id)
	}
	say(len(held) == 0, "slots have anons that are none: %v", held)
}

func countCovers(v kern.View, say sayer) {
	type spot struct{ amap, slot int }
	covers := map[spot]int{}
	for _, a := range v.Areas {
		m, ok := amapOf(v, a.Amap)
		say(ok && a.Slot >= 0 && a.Slot+a.Hi-a.Lo <= len(m.Cover), "area %+v has slots that are none", a)
		for page := a.Lo; page < a.Hi; page++ {
			covers[spot{a.Amap, a.Slot + page - a.Lo}]++
		}
	}
	for _, m := range v.Amaps {
		say(len(m.Cover) == len(m.Anons), "amap %d: %d covers, %d anons", m.Id, len(m.Cover), len(m.Anons))
		for slot, n := range m.Cover {
			say(n == covers[spot{m.Id, slot}], "amap %d, slot %d: Cover %d, areas %d", m.Id, slot, n, covers[spot{m.Id, slot}])
			say(n > 0 || m.Anons[slot] == 0, "amap %d, slot %d, which none covers, has an anon", m.Id, slot)
		}
		say(slices.Max(m.Cover) > 0, "amap %d is covered by none", m.Id)
	}
}

func countFrames(v kern.View, say sayer) {
	want := make([]frames.Frame, len(v.Frames))
	owned := 0
	own := func(frame int, f frames.Frame) {
		if frame == -1 {
			return
		}
		say(frame >= 0 && frame < len(want) && want[frame] == frames.Frame{}, "frame %d, of %+v, is none, or another's", frame, f)
		f.Loan = v.Frames[frame].Loan
		want[frame] = f
		owned++
	}
	for _, a := range v.Anons {
		own(a.Frame, frames.Frame{Class: frames.Anon, Owner: a.Id})
	}
	for _, x := range v.Pages {
		own(x.Frame, frames.Frame{Class: frames.File, Owner: x.Object, Index: x.Index})
	}
	tables, all := 0, 0
	for _, n := range v.Tables {
		all += n
	}
	for frame, f := range v.Frames {
		switch f.Class {
		case frames.Table:
			tables++
			say(f.Loan == 0 && f.Wire == 0, "table %d is %+v", frame, f)
		case frames.Loose:
			say(want[frame] == frames.Frame{} && f.Loan > 0 && f.Wire == 0, "frame %d is %+v", frame, f)
		default:
			say(f == want[frame], "frame %d is %+v, and %+v has it", frame, f, want[frame])
		}
	}
	say(tables == all, "%d frames are tables, and all have %d", tables, all)
}

func countPlaces(v kern.View, say sayer) {
	taken := map[int]int{}
	one := func(frame, slot int, what string, args ...any) {
		say((frame == -1) != (slot == -1), what, args...)
		if slot != -1 {
			taken[slot]++
		}
	}
	for _, a := range v.Anons {
		one(a.Frame, a.Slot, "anon %+v", a)
	}
	for _, x := range v.Pages {
		one(x.Frame, x.Slot, "page %+v", x)
		say(x.File > 1000 || x.Slot == -1, "page %+v is at a place", x)
	}
	for place, state := range v.Slots {
		say((state == 1) == (taken[place] == 1) && state >= 0 && state <= 2, "place %d has state %d, and is had %d times", place, state, taken[place])
		delete(taken, place)
	}
	say(len(taken) == 0, "places are had that are none: %v", taken)
}

// countOrder asks the orders of the lists.
func countOrder(v kern.View, procs []int, say sayer) {
	rising := func(what string, n int, less func(i, j int) bool) {
		for i := 1; i < n; i++ {
			say(less(i-1, i), "%s: %d, %d do not rise", what, i-1, i)
		}
	}
	pair := func(a, b, c, d int) bool { return a < c || a == c && b < d }
	rising("Anons", len(v.Anons), func(i, j int) bool { return v.Anons[i].Id < v.Anons[j].Id })
	rising("Amaps", len(v.Amaps), func(i, j int) bool { return v.Amaps[i].Id < v.Amaps[j].Id })
	rising("Pages", len(v.Pages), func(i, j int) bool {
		return pair(v.Pages[i].Object, v.Pages[i].Index, v.Pages[j].Object, v.Pages[j].Index)
	})
	rising("Areas", len(v.Areas), func(i, j int) bool {
		return pair(v.Areas[i].Proc, v.Areas[i].Hi-1, v.Areas[j].Proc, v.Areas[j].Lo)
	})
	rising("Leaves", len(v.Leaves), func(i, j int) bool {
		return pair(v.Leaves[i].Proc, v.Leaves[i].Page, v.Leaves[j].Proc, v.Leaves[j].Page)
	})
	say(len(v.Tables) == len(procs), "%d Tables of %v", len(v.Tables), procs)
	tables := map[int]int{}
	for _, f := range v.Frames {
		if f.Class == frames.Table {
			tables[f.Owner]++
		}
	}
	for i, proc := range procs {
		say(v.Tables[i] == tables[proc], "Tables of process %d are %d, and frames %d", proc, v.Tables[i], tables[proc])
	}
}

// countAreas asks whether areas have private pages alone, whether those that have a slot together all Need, or none, and
// whether they mean the same base.
func countAreas(v kern.View, entries func(proc int) []api.Entry, say sayer) {
	type spot struct{ amap, slot int }
	type base struct {
		needs     bool
		file, off int
	}
	bases := map[spot]base{}
	for _, a := range v.Areas {
		l := entries(a.Proc)
		say(a.Lo < a.Hi, "area %+v is empty", a)
		for page := a.Lo; page < a.Hi; page++ {
			e, ok := entryOf(l, page)
			say(ok && !e.Shared, "area %+v: page %d has entry %+v, %v", a, page, e, ok)
			at, b := spot{a.Amap, a.Slot + page - a.Lo}, base{a.Needs, e.File, e.Off + page - e.Start}
			if e.File == 0 {
				b.off = 0
			}
			if was, ok := bases[at]; ok {
				say(was == b, "area %+v: page %d: %+v, and another one %+v", a, page, b, was)
			}
			bases[at] = b
		}
	}
}

func countLeaves(v kern.View, entries func(proc int) []api.Entry, say sayer) {
	for _, leaf := range v.Leaves {
		l := entries(leaf.Proc)
		e, ok := entryOf(l, leaf.Page)
		say(ok, "leaf %+v is of no entry", leaf)
		may := e.Prot
		if may&w != 0 {
			may |= r
		}
		say(leaf.Prot&^may == 0, "leaf %+v may more than its entry, %d", leaf, e.Prot)
		say(frameOf(v, l, leaf.Proc, leaf.Page) == leaf.Frame, "leaf %+v leads not to %d, which the page means", leaf, frameOf(v, l, leaf.Proc, leaf.Page))
		f := v.Frames[leaf.Frame]
		say(f.Class == frames.Anon || f.Class == frames.File, "leaf %+v leads to %+v", leaf, f)
		if leaf.Prot&w == 0 {
			continue
		}
		say(f.Loan == 0, "leaf %+v may store to %+v", leaf, f)
		if f.Class == frames.Anon {
			a, _ := anonOf(v, f.Owner)
			area, _ := areaOf(v, leaf.Proc, leaf.Page)
			say(a.Refs == 1 && !area.Needs && slotOf(v, leaf.Proc, leaf.Page) == a.Id, "leaf %+v may store to %+v of %+v", leaf, a, area)
		} else {
			say(e.Shared, "leaf %+v may store to a file from a private page", leaf)
		}
	}
}
