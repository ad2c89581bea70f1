package kern_test

import (
	"math"
	"slices"
	"testing"

	"pantry/api"
	"pantry/frames"
	"pantry/kern"
)

// areas asks which areas there are.
func (p *pair) areas(t *testing.T, what string, want ...kern.Area) {
	t.Helper()
	isList(t, what+": Areas", p.k.View().Areas, want)
}

// amap asks what an amap has, slot by slot.
func (p *pair) amap(t *testing.T, what string, id int, cover, anons []int) {
	t.Helper()
	m, ok := amapOf(p.k.View(), id)
	if !ok || !slices.Equal(m.Cover, cover) || !slices.Equal(m.Anons, anons) {
		t.Errorf("%s: amap %d is %+v, want %v, %v", what, id, m, cover, anons)
	}
}

// refs asks how often each anon is held.
func (p *pair) refs(t *testing.T, what string, want ...int) {
	t.Helper()
	var got []int
	for _, a := range p.k.View().Anons {
		got = append(got, a.Refs)
	}
	isList(t, what+": Refs", got, want)
}

// stored is a kernel with three pages, of which two were stored into.
func stored(t *testing.T, ops ...api.Op) *pair {
	t.Helper()
	p := roomy(t, []int{2}, bare(1, 10, 3), store(1, 10, 5, 20), store(1, 12, 5, 22))
	p.all(t, ops...)
	return p
}

func TestView(t *testing.T) { // P18.6: of one process
	p := stored(t, load(1, 10, 5), load(1, 12, 5))
	v := p.k.View()
	f, g := p.at(1, 10), p.at(1, 12)
	isList(t, "Anons", v.Anons, []kern.AnonAt{{Id: 1, Refs: 1, Frame: f, Slot: -1}, {Id: 2, Refs: 1, Frame: g, Slot: -1}})
	isList(t, "Areas", v.Areas, []kern.Area{{Proc: 1, Lo: 10, Hi: 13, Amap: 1}})
	isList(t, "Leaves", v.Leaves, []kern.Leaf{{Proc: 1, Page: 10, Frame: f, Prot: rw}, {Proc: 1, Page: 12, Frame: g, Prot: rw}})
	isList(t, "Tables", v.Tables, []int{3})
	isList(t, "Slots", v.Slots, make([]int, 32))
	isList(t, "Pages", v.Pages, nil)
	p.amap(t, "stored", 1, []int{1, 1, 1}, []int{1, 0, 2})
	if len(v.Frames) != 64 || v.Frames[f] != (frames.Frame{Class: frames.Anon, Owner: 1}) || v.Frames[g] != (frames.Frame{Class: frames.Anon, Owner: 2}) {
		t.Errorf("Frames: %v", v.Frames)
	}

	p.out(t, 1, 10)
	p.all(t, load(1, 11, 5))
	v = p.k.View()
	isList(t, "Anons behind Evict", v.Anons, []kern.AnonAt{{Id: 1, Refs: 1, Frame: -1, Slot: 0}, {Id: 2, Refs: 1, Frame: g, Slot: -1}, {Id: 3, Refs: 1, Frame: p.at(1, 11), Slot: -1}})
	isList(t, "Slots behind Evict", v.Slots[:3], []int{1, 0, 0})
	isList(t, "Leaves behind Evict", v.Leaves, []kern.Leaf{{Proc: 1, Page: 11, Frame: p.at(1, 11), Prot: r}, {Proc: 1, Page: 12, Frame: g, Prot: rw}})
}

func TestViewOfObjects(t *testing.T) { // P18.6
	p := roomy(t, []int{3, 3}, shared(1, 0, 2, 2, 1), filed(1, 4, 3, 1, 0), region(1, 8, 2), load(1, 1, 5), load(1, 4, 5), store(1, 9, 5, 1), store(1, 8, 5, 2), get(2, 0, 0))
	v := p.k.View()
	want := []kern.PageAt{
		{Object: 1, File: 2, Index: 0, Frame: frameIn(v, 2, 0), Slot: -1}, {Object: 1, File: 2, Index: 2, Frame: p.at(1, 1), Slot: -1}, {Object: 2, File: 1, Index: 0, Frame: p.at(1, 4), Slot: -1},
		{Object: 3, File: 1001, Index: 0, Frame: p.at(1, 8), Slot: -1}, {Object: 3, File: 1001, Index: 1, Frame: p.at(1, 9), Slot: -1},
	}
	isList(t, "Pages", v.Pages, want)
	for _, x := range v.Pages {
		if f := v.Frames[x.Frame]; f != (frames.Frame{Class: frames.File, Owner: x.Object, Index: x.Index}) {
			t.Errorf("page %+v is in %+v", x, f)
		}
	}
	isList(t, "Leaves", v.Leaves, []kern.Leaf{{Proc: 1, Page: 1, Frame: want[1].Frame, Prot: r}, {Proc: 1, Page: 4, Frame: want[2].Frame, Prot: r}, {Proc: 1, Page: 8, Frame: want[3].Frame, Prot: rw}, {Proc: 1, Page: 9, Frame: want[4].Frame, Prot: rw}})
	p.out(t, 1, 9)
	p.out(t, 1, 1)
	want = slices.Delete(want, 1, 2)
	want[3].Frame, want[3].Slot = -1, 0
	isList(t, "Pages behind Evict", p.k.View().Pages, want)
	p.all(t, unmap(1, 8, 2))
	isList(t, "Pages of a region that nobody has", p.k.View().Pages, want[:2])
	p.all(t, size(1, 0), size(2, 1))
	isList(t, "Pages that were cut off", p.k.View().Pages, want[:1])
}

func TestRegionsOfNobody(t *testing.T) { // P18.6: their pages are nowhere
	for _, o := range []api.Op{bare(1, 0, 3), region(1, 0, 3), unmap(1, 0, 3)} {
		p := roomy(t, nil, region(1, 0, 3), store(1, 0, 5, 1), store(1, 2, 5, 2), bare(1, 8, 1))
		p.out(t, 1, 0)
		p.all(t, fork(1), bare(2, 0, 3), load(2, 0, 5), o)
		isList(t, "Pages", p.k.View().Pages, nil)
		isList(t, "Slots", p.places(), make([]int, 32))
	}
	p := roomy(t, nil, region(1, 0, 3), store(1, 0, 5, 1), store(1, 2, 5, 2), inherit(1, 0, 3, api.Copy), fork(1), unmap(2, 0, 1), exit(1))
	if l := p.k.View().Pages; len(l) != 1 || l[0].Index != 2 {
		t.Errorf("Pages: %v, want the one that a private page refers to", l)
	}
	p.is(t, "its byte", load(2, 2, 5), 2, api.OK)
}

func TestForkLeavesLeaves(t *testing.T) { // P18.6: of what may still be stored to just so
	p := roomy(t, []int{2}, bare(1, 0, 4), inherit(1, 2, 1, api.Share), inherit(1, 3, 1, api.None), region(1, 8, 1), shared(1, 10, 2, 1, 0))
	for _, page := range []int{0, 1, 2, 3, 8, 10, 11} {
		p.all(t, store(1, page, 5, 1))
	}
	p.all(t, fork(1))
	prots := map[int]int{0: r, 1: r, 2: rw, 3: rw, 8: rw, 10: rw, 11: rw}
	ask := func(what string) {
		t.Helper()
		for _, leaf := range p.k.View().Leaves {
			if leaf.Prot != prots[leaf.Page] {
				t.Errorf("%s: leaf %+v, want Prot %d", what, leaf, prots[leaf.Page])
			}
		}
	}
	ask("behind a fork")
	p.all(t, sync(1))
	prots[10], prots[11] = r, r
	ask("behind OpSync")
	p.all(t, send(1, 2, 1, 2))
	prots[2] = r
	ask("behind OpSend")
	p.lend(t, 1, 8)
	prots[8] = r
	ask("behind Lend")
}

func TestForkTakesTablesAlone(t *testing.T) { // P18.6: with Copy both Need, with Share none does
	p := stored(t)
	free := p.k.Free()
	p.all(t, fork(1))
	if p.k.Free() != free-1 {
		t.Errorf("a fork took %d frames", free-p.k.Free())
	}
	p.areas(t, "Copy", kern.Area{Proc: 1, Lo: 10, Hi: 13, Amap: 1, Needs: true}, kern.Area{Proc: 2, Lo: 10, Hi: 13, Amap: 1, Needs: true})
	p.amap(t, "Copy", 1, []int{2, 2, 2}, []int{1, 0, 2})
	p.refs(t, "Copy", 1, 1)
	isList(t, "Tables", p.k.View().Tables, []int{3, 1})

	p.all(t, store(2, 10, 5, 30))
	if p.k.Free() != free-4 {
		t.Errorf("a store took %d frames, want two for tables, and one", free-1-p.k.Free())
	}
	p.areas(t, "a store of the child", kern.Area{Proc: 1, Lo: 10, Hi: 13, Amap: 1, Needs: true}, kern.Area{Proc: 2, Lo: 10, Hi: 13, Amap: 2})
	p.amap(t, "the parent's", 1, []int{1, 1, 1}, []int{1, 0, 2})
	p.amap(t, "the child's", 2, []int{1, 1, 1}, []int{3, 0, 2})
	p.refs(t, "a store of the child", 1, 2, 1)

	p.all(t, store(1, 10, 5, 40))
	p.areas(t, "a store of the parent", kern.Area{Proc: 1, Lo: 10, Hi: 13, Amap: 1}, kern.Area{Proc: 2, Lo: 10, Hi: 13, Amap: 2})
	p.all(t, store(1, 12, 5, 42))
	p.refs(t, "stores of the parent", 1, 1, 1, 1)
	if p.k.Free() != free-5 {
		t.Errorf("all stores took %d frames", free-1-p.k.Free())
	}
	p.all(t, exit(2))
	p.refs(t, "the child is gone", 1, 1)
	p.amap(t, "the parent's", 1, []int{1, 1, 1}, []int{1, 0, 4})
	if p.k.Free() != free {
		t.Errorf("%d frames are gone", free-p.k.Free())
	}
}

func TestForkOfTheParentsCopy(t *testing.T) { // P18.6: the parent stores first, and its child's child has the amap alone
	p := stored(t, fork(1), fork(2), store(1, 10, 5, 1))
	p.areas(t, "a store", kern.Area{Proc: 1, Lo: 10, Hi: 13, Amap: 2}, kern.Area{Proc: 2, Lo: 10, Hi: 13, Amap: 1, Needs: true}, kern.Area{Proc: 3, Lo: 10, Hi: 13, Amap: 1, Needs: true})
	p.refs(t, "a store", 1, 2, 1)
	free := p.k.Free()
	p.all(t, exit(2), store(3, 10, 5, 2))
	p.areas(t, "a store of the last one", kern.Area{Proc: 1, Lo: 10, Hi: 13, Amap: 2}, kern.Area{Proc: 3, Lo: 10, Hi: 13, Amap: 1})
	if p.k.Free() != free+1-2 {
		t.Errorf("the last one's store took a frame")
	}
}

func TestForkWithShare(t *testing.T) { // P18.6
	p := stored(t, inherit(1, 10, 3, api.Share), fork(1))
	p.areas(t, "Share", kern.Area{Proc: 1, Lo: 10, Hi: 13, Amap: 1}, kern.Area{Proc: 2, Lo: 10, Hi: 13, Amap: 1})
	p.amap(t, "Share", 1, []int{2, 2, 2}, []int{1, 0, 2})
	free := p.k.Free()
	p.all(t, store(2, 10, 5, 30), store(1, 10, 5, 31))
	if p.k.Free() != free-2 {
		t.Errorf("stores took %d frames, want two for tables", free-p.k.Free())
	}
	p.all(t, store(2, 11, 5, 32))
	p.refs(t, "Share", 1, 1, 1)

	p.all(t, inherit(1, 10, 2, api.Copy), fork(1))
	p.areas(t, "Copy of what is shared", kern.Area{Proc: 1, Lo: 10, Hi: 12, Amap: 1}, kern.Area{Proc: 1, Lo: 12, Hi: 13, Amap: 1, Slot: 2}, kern.Area{Proc: 2, Lo: 10, Hi: 13, Amap: 1}, kern.Area{Proc: 3, Lo: 10, Hi: 12, Amap: 2}, kern.Area{Proc: 3, Lo: 12, Hi: 13, Amap: 1, Slot: 2})
	p.amap(t, "what is shared", 1, []int{2, 2, 3}, []int{1, 3, 2})
	p.amap(t, "its copy", 2, []int{1, 1}, []int{1, 3})
	p.refs(t, "Copy of what is shared", 2, 1, 2)
	p.all(t, store(2, 10, 5, 50))
	p.amap(t, "what is shared", 1, []int{2, 2, 3}, []int{4, 3, 2})
	p.is(t, "the one that shares", load(1, 10, 5), 50, api.OK)
	p.is(t, "the one that copies", load(3, 10, 5), 31, api.OK)
}

func TestForkWithShareBehindCopy(t *testing.T) { // P18.6: what Needs goes into an amap of its own first
	p := stored(t, fork(1), inherit(1, 10, 3, api.Share), fork(1))
	p.areas(t, "Share", kern.Area{Proc: 1, Lo: 10, Hi: 13, Amap: 2}, kern.Area{Proc: 2, Lo: 10, Hi: 13, Amap: 1, Needs: true}, kern.Area{Proc: 3, Lo: 10, Hi: 13, Amap: 2})
	p.refs(t, "Share", 2, 2)
	p.all(t, store(3, 10, 5, 50), store(2, 12, 5, 51))
	p.refs(t, "stores", 1, 1, 1, 1)
}

func TestStoreIntoSharedSlots(t *testing.T) { // P18.2, P18.6: another anon, or none, is there for all that have the slot, at once
	for page := 10; page < 13; page++ {
		for proc := 1; proc < 3; proc++ {
			build := func(ops ...api.Op) *pair {
				t.Helper()
				p := stored(t, store(1, 11, 5, 21), inherit(1, 10, 3, api.Share), fork(1), bare(2, 13, 1), store(2, 13, 5, 23), load(1, page, 5), load(2, page, 5))
				p.all(t, ops...)
				return p
			}
			p := build(inherit(1, 10, 3, api.Copy), fork(1), load(1, page, 5), load(2, page, 5))
			p.all(t, store(proc, page, 5, 1), load(1, page, 5), load(2, page, 5), load(3, page, 5))
			p = build()
			p.lend(t, proc, page)
			p.all(t, store(3-proc, page, 5, 1), load(1, page, 5), load(2, page, 5))
			p = build(advise(proc, page, 1, api.DontNeed), load(1, page, 5), load(2, page, 5))
			p = build(lock(2, 13, 1), unmap(2, page, 1), bare(2, page, 1), store(2, page, 5, 1))
			p.lend(t, 1, page)
			leaves := len(p.k.View().Leaves)
			p.all(t, store(1, page, 5, 2))
			if n := len(p.k.View().Leaves); n != leaves {
				t.Errorf("page %d: a store made %d leaves of %d", page, n, leaves)
			}
		}
	}
}

func TestStoreBesideAnotherArea(t *testing.T) { // P18.6: a slot behind an area is not the area's
	p := stored(t, fork(1), exit(2), inherit(1, 10, 1, api.None), fork(1))
	p.areas(t, "parts", kern.Area{Proc: 1, Lo: 10, Hi: 11, Amap: 1, Needs: true}, kern.Area{Proc: 1, Lo: 11, Hi: 13, Amap: 1, Slot: 1, Needs: true}, kern.Area{Proc: 2, Lo: 11, Hi: 13, Amap: 1, Slot: 1, Needs: true})
	p.all(t, store(1, 10, 5, 1))
	p.areas(t, "a store", kern.Area{Proc: 1, Lo: 10, Hi: 11, Amap: 1}, kern.Area{Proc: 1, Lo: 11, Hi: 13, Amap: 1, Slot: 1, Needs: true}, kern.Area{Proc: 2, Lo: 11, Hi: 13, Amap: 1, Slot: 1, Needs: true})

	p = stored(t, inherit(1, 10, 3, api.Share), fork(1), unmap(2, 11, 1), bare(2, 11, 1), load(2, 11, 5), inherit(1, 11, 1, api.Copy), fork(1))
	leaves := len(p.k.View().Leaves)
	p.all(t, store(1, 11, 5, 1))
	if n := len(p.k.View().Leaves); n != leaves+1 {
		t.Errorf("a store made %d leaves of %d", n, leaves)
	}
}

func TestForkWithoutBytes(t *testing.T) { // P18.6: slots without bytes are shared, too; with Copy there is nothing to share
	p := roomy(t, nil, bare(1, 0, 2), bare(1, 4, 2), inherit(1, 4, 2, api.Share), bare(1, 8, 2), inherit(1, 8, 2, api.None), fork(1))
	p.areas(t, "nothing was stored", kern.Area{Proc: 1, Lo: 4, Hi: 6, Amap: 1}, kern.Area{Proc: 2, Lo: 4, Hi: 6, Amap: 1})
	p.all(t, store(2, 5, 5, 7), store(2, 1, 5, 8))
	p.is(t, "the parent", load(1, 5, 5), 7, api.OK)
	p.is(t, "the parent", load(1, 1, 5), 0, api.OK)
}

func TestForkWithShareOfAPart(t *testing.T) { // P18.6: areas are as long as there are pages without one
	p := roomy(t, nil, bare(1, 0, 9), inherit(1, 2, 6, api.Share), store(1, 4, 5, 1), unmap(1, 4, 1), bare(1, 4, 1), inherit(1, 4, 1, api.Share), store(1, 0, 5, 2), fork(1))
	p.areas(t, "parts", kern.Area{Proc: 1, Lo: 0, Hi: 2, Amap: 2, Needs: true}, kern.Area{Proc: 1, Lo: 2, Hi: 4, Amap: 1}, kern.Area{Proc: 1, Lo: 4, Hi: 5, Amap: 3}, kern.Area{Proc: 1, Lo: 5, Hi: 8, Amap: 1, Slot: 3},
		kern.Area{Proc: 2, Lo: 0, Hi: 2, Amap: 2, Needs: true}, kern.Area{Proc: 2, Lo: 2, Hi: 4, Amap: 1}, kern.Area{Proc: 2, Lo: 4, Hi: 5, Amap: 3}, kern.Area{Proc: 2, Lo: 5, Hi: 8, Amap: 1, Slot: 3})
}

func TestLoadOfNoughts(t *testing.T) { // P18.6: they become an anon's, for all that may have the slot
	p := stored(t, fork(1), load(2, 11, 5))
	p.areas(t, "a load", kern.Area{Proc: 1, Lo: 10, Hi: 13, Amap: 1, Needs: true}, kern.Area{Proc: 2, Lo: 10, Hi: 13, Amap: 1, Needs: true})
	p.amap(t, "a load", 1, []int{2, 2, 2}, []int{1, 3, 2})
	free := p.k.Free()
	p.all(t, load(1, 11, 5))
	if p.k.Free() != free {
		t.Error("another load of the same noughts took a frame")
	}
	p.all(t, store(1, 11, 5, 1))
	p.is(t, "the other one", load(2, 11, 5), 0, api.OK)
}

func TestUnmapOfAPart(t *testing.T) { // P18.6: slots that nobody covers are empty
	p := stored(t, unmap(1, 10, 1))
	p.areas(t, "one page less", kern.Area{Proc: 1, Lo: 11, Hi: 13, Amap: 1, Slot: 1})
	p.amap(t, "one page less", 1, []int{0, 1, 1}, []int{0, 0, 2})
	p.refs(t, "one page less", 1)
	p.all(t, bare(1, 12, 1))
	p.areas(t, "another page instead", kern.Area{Proc: 1, Lo: 11, Hi: 12, Amap: 1, Slot: 1})
	p.refs(t, "another page instead")
	p.all(t, store(1, 12, 5, 1), unmap(1, 11, 1))
	p.areas(t, "another amap", kern.Area{Proc: 1, Lo: 12, Hi: 13, Amap: 2})
	if ids := len(p.k.View().Amaps); ids != 1 {
		t.Errorf("%d amaps", ids)
	}
}

func TestUnmapOfAChildsPart(t *testing.T) { // P18.6
	p := stored(t, fork(1), unmap(2, 12, 1), unmap(1, 10, 1))
	p.amap(t, "each has unmapped a page", 1, []int{1, 2, 1}, []int{1, 0, 2})
	free := p.k.Free()
	p.all(t, store(2, 10, 5, 1))
	p.amap(t, "what the parent still has", 1, []int{0, 1, 1}, []int{0, 0, 2})
	p.refs(t, "a store", 1, 1)
	if p.k.Free() != free-2 {
		t.Error("a store into a page that is nobody else's took a frame")
	}
	p.all(t, store(1, 12, 5, 2))
	if p.k.Free() != free-2 {
		t.Error("a store into a page that is nobody else's took a frame")
	}
}

func TestDontNeed(t *testing.T) { // P18.2, P18.6
	p := stored(t, advise(1, 10, 1, api.DontNeed))
	p.refs(t, "its own", 1)
	p.is(t, "its own", load(1, 10, 5), 0, api.OK)
	p = stored(t, fork(1), advise(1, 10, 2, api.DontNeed))
	p.areas(t, "what Needs", kern.Area{Proc: 1, Lo: 12, Hi: 13, Amap: 1, Slot: 2, Needs: true}, kern.Area{Proc: 2, Lo: 10, Hi: 13, Amap: 1, Needs: true})
	p.is(t, "what Needs", load(1, 10, 5), 0, api.OK)
	p.is(t, "the other one's", load(2, 10, 5), 20, api.OK)
	p = stored(t, store(1, 11, 5, 21), inherit(1, 10, 3, api.Share), fork(1), load(2, 10, 5), load(2, 11, 5), load(2, 12, 5), advise(2, 11, 1, api.DontNeed))
	p.amap(t, "what is shared", 1, []int{2, 2, 2}, []int{1, 0, 2})
	for proc := range 2 {
		p.is(t, "the page ahead", load(proc+1, 10, 5), 20, api.OK)
		p.is(t, "what is shared", load(proc+1, 11, 5), 0, api.OK)
		p.is(t, "the next page", load(proc+1, 12, 5), 22, api.OK)
	}
}

func TestSendSharesAnons(t *testing.T) { // P18.6: it takes no frames, but for pages of files
	p := stored(t, fork(1), filed(1, 20, 2, 1, 0), put(1, 0, 5, 9))
	free := p.k.Free()
	p.is(t, "anons", send(1, 10, 3, 2), 0, api.OK)
	p.refs(t, "anons", 2, 2)
	p.areas(t, "anons", kern.Area{Proc: 1, Lo: 10, Hi: 13, Amap: 1, Needs: true}, kern.Area{Proc: 2, Lo: 0, Hi: 3, Amap: 2}, kern.Area{Proc: 2, Lo: 10, Hi: 13, Amap: 1, Needs: true})
	if p.k.Free() != free {
		t.Errorf("%d frames were taken", free-p.k.Free())
	}
	p.is(t, "a file's", send(1, 20, 2, 1), 0, api.OK)
	if p.k.Free() != free-2 {
		t.Errorf("%d frames were taken", free-p.k.Free())
	}
	p.is(t, "noughts", send(1, 11, 1, 1), 2, api.OK)
	p.all(t, store(1, 12, 5, 1), store(2, 2, 5, 2), store(2, 12, 5, 3))
	p.is(t, "the first one", load(1, 12, 5), 1, api.OK)
	p.is(t, "what was sent", load(2, 2, 5), 2, api.OK)
	p.is(t, "the child's", load(2, 12, 5), 3, api.OK)
}

func TestSendToOneself(t *testing.T) { // P18.2: what was stored through a leaf ahead of it is not sent behind it
	p := stored(t)
	p.is(t, "sent", send(1, 10, 3, 1), 0, api.OK)
	p.all(t, store(1, 10, 5, 1), store(1, 2, 5, 2))
	p.is(t, "what was sent", load(1, 0, 5), 20, api.OK)
	p.is(t, "the first one", load(1, 12, 5), 22, api.OK)
}

func TestViewIsNewMemory(t *testing.T) { // P18.6, R3
	build := func() *pair {
		return stored(t, shared(1, 20, 2, 1, 0), load(1, 20, 5), fork(1), store(2, 10, 5, 1))
	}
	p := build()
	v, want := p.k.View(), build().k.View()
	for i := range v.Amaps {
		scribble(v.Amaps[i].Cover, -7)
		scribble(v.Amaps[i].Anons, -8)
	}
	isList(t, "a list beside another one", v.Amaps[0].Cover, []int{-7, -7, -7})
	scribble(v.Tables, -9)
	scribble(v.Slots, -10)
	scribble(v.Frames, frames.Frame{Class: 9})
	scribble(v.Anons, kern.AnonAt{Id: 9})
	scribble(v.Amaps, kern.AmapAt{Id: 9})
	scribble(v.Pages, kern.PageAt{File: 9})
	scribble(v.Areas, kern.Area{Proc: 9})
	scribble(v.Leaves, kern.Leaf{Proc: 9})
	isView(t, "behind scribbles", p.k.View(), want)
	scribble(p.k.Procs(), 9)
	scribble(p.k.Entries(1), api.Entry{File: 9})
	scribble(p.k.Resident(), 9)
	isView(t, "behind scribbles", p.k.View(), want)
	p.right(t, "scribbles")
}

// scribble writes over a list, and over its spare room.
func scribble[T any](l []T, x T) {
	for i := range l {
		l[i] = x
	}
	for i := len(l); i < cap(l); i++ {
		l[:cap(l)][i] = x
	}
}

func TestKernelThatNoCallMade(t *testing.T) { // R5
	for _, k := range []*kern.Kernel{nil, {}} {
		for _, n := range []int{0, 1, -1, 3, math.MaxInt, math.MinInt} {
			for kind := range 22 {
				if got := k.Do(api.Op{Kind: kind, Proc: n, Addr: n, Pages: n, File: n}); got != (api.Answer{Err: api.ErrMade}) {
					t.Errorf("Do of kind %d: %+v", kind, got)
				}
			}
			b, err := k.Byte(n, n, n)
			fb, ferr := k.FileByte(n, n, n)
			f, lerr := k.Lend(n, n)
			if b != 0 || err != api.ErrMade || fb != 0 || ferr != api.ErrMade || f != 0 || lerr != api.ErrMade {
				t.Errorf("Byte: %d, %v; FileByte: %d, %v; Lend: %d, %v", b, err, fb, ferr, f, lerr)
			}
			if p, e, back := k.Plan(n, n), k.Evict(n), k.Back(n); p != api.ErrMade || e != api.ErrMade || back != api.ErrMade {
				t.Errorf("Plan: %v, Evict: %v, Back: %v", p, e, back)
			}
			if b, ok := k.FrameByte(n, n); b != 0 || ok || k.Seen(n) || k.Free() != 0 {
				t.Errorf("FrameByte: %d, %v; Seen: %v; Free: %d", b, ok, k.Seen(n), k.Free())
			}
			isList(t, "Entries", k.Entries(n), nil)
		}
		isList(t, "Procs", k.Procs(), nil)
		isList(t, "Resident", k.Resident(), nil)
		isView(t, "View", k.View(), kern.View{})
	}
}
