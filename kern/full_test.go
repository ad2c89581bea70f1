package kern_test

import (
	"testing"

	"pantry/api"
	"pantry/kern"
)

func TestTablesAheadOfFrames(t *testing.T) { // P18.2: a store that lacks tables takes nothing
	for free := range 5 {
		p := made(t, kern.Shape{Frames: 1 + free, Slots: 4}, nil, bare(1, 0, 2))
		want := api.ErrNoMem
		if free >= 3 {
			want = api.OK
		}
		for _, o := range []api.Op{store(1, 1, 5, 1), load(1, 1, 5)} {
			if a := p.do(t, o); a.Err != want || want != api.OK && p.k.Free() != free {
				t.Errorf("%d frames, %+v: %+v, then %d are free", free, o, a, p.k.Free())
			}
		}
	}
	for _, x := range []struct{ page, frames, tables int }{{511, 1, 3}, {512, 2, 4}, {1 << 18, 3, 5}, {maxVPN - 1, 3, 5}} {
		for short := range 2 {
			p := made(t, kern.Shape{Frames: 4 + x.frames - short, Slots: 4}, nil, bare(1, 0, 1), store(1, 0, 5, 1), bare(1, x.page, 1))
			p.looks = append(p.looks, x.page)
			if a := p.do(t, store(1, x.page, 5, 2)); (a.Err == api.OK) != (short == 0) || p.k.Free() != short*(x.frames-1) {
				t.Errorf("page %d, with %d frames: %v, then %d are free", x.page, 4+x.frames-short, a, p.k.Free())
			}
			if short == 0 {
				isList(t, "Tables", p.k.View().Tables, []int{x.tables})
			}
		}
	}
}

func TestResidentPageWithoutTables(t *testing.T) { // P18.2
	p := made(t, kern.Shape{Frames: 6, Slots: 4}, nil, bare(1, 0, 2), store(1, 0, 5, 1), fork(1))
	p.is(t, "tables lack", load(2, 0, 5), 0, api.ErrNoMem)
	p.all(t, exit(1))
	p.is(t, "tables are there", load(2, 0, 5), 1, api.OK)
}

func TestReserve(t *testing.T) { // P18.1: frames that are kept for tables
	p := made(t, kern.Shape{Frames: 8, Reserve: 3, Slots: 4}, []int{1}, bare(1, 0, 6), store(1, 0, 5, 1), store(1, 1, 5, 1))
	p.is(t, "the rest is for tables", store(1, 2, 5, 1), 0, api.ErrNoMem)
	p.is(t, "the rest is for tables", get(1, 0, 5), 0, api.ErrNoMem)
	p.is(t, "the rest is for tables", put(1, 0, 5, 1), 0, api.ErrNoMem)
	p.is(t, "a table", fork(1), 2, api.OK)
	p.is(t, "tables", load(2, 0, 5), 1, api.OK)
	if p.k.Free() != 0 {
		t.Errorf("%d are free", p.k.Free())
	}
	p.is(t, "none is left", fork(1), 0, api.ErrNoMem)
	p.all(t, exit(2))
	p.is(t, "still for tables", store(1, 2, 5, 1), 0, api.ErrNoMem)
}

func TestWithoutFrames(t *testing.T) { // P18.2: what needs a frame is done behind an eviction
	tests := []struct {
		what string
		ops  []api.Op
		o    api.Op
		n    int
	}{
		{"a store", nil, store(1, 7, 5, 1), 0},
		{"a load", nil, load(1, 7, 5), 0},
		{"a fork", nil, fork(1), 2},
		{"a file's page, loaded", nil, load(1, 20, 5), 0},
		{"a file's page, stored", nil, store(1, 20, 5, 1), 0},
		{"a file's page, got", nil, get(1, 1, 5), 0},
		{"a file's page, put", nil, put(1, 1, 5, 3), 0},
		{"a private page of a file, stored", nil, store(1, 30, 5, 1), 0},
		{"a region's page, loaded", nil, load(1, 24, 5), 0},
		{"a region's page, stored", nil, store(1, 24, 5, 1), 0},
		{"a file's page, sent", nil, send(1, 20, 1, 1), 8},
	}
	for _, x := range tests {
		p := made(t, kern.Shape{Frames: 8, Slots: 20}, []int{3}, bare(1, 0, 8), shared(1, 20, 2, 1, 0), region(1, 24, 2), filed(1, 30, 1, 1, 2))
		p.all(t, x.ops...)
		for page := range 5 {
			p.all(t, store(1, page, 5, 10+page))
		}
		if p.k.Free() != 0 {
			t.Fatalf("%d are free", p.k.Free())
		}
		before := p.k.View()
		p.is(t, x.what, x.o, 0, api.ErrNoMem)
		isView(t, x.what, p.k.View(), before)
		p.out(t, 1, 3)
		p.is(t, x.what, x.o, x.n, api.OK)
	}
}

func TestStoreIntoWhatIsShared(t *testing.T) { // P18.2: one frame is enough for the copy, wherever the first one is
	for _, out := range []bool{false, true} {
		p := made(t, kern.Shape{Frames: 9, Slots: 20}, nil, bare(1, 0, 2), store(1, 0, 5, 10), fork(1), load(2, 0, 5), load(2, 1, 5))
		if p.k.Free() != 1 {
			t.Fatalf("%d are free", p.k.Free())
		}
		want := api.OK
		if out {
			want = api.ErrNoMem // the frame that it had is taken
			p.out(t, 1, 0)
			p.all(t, store(2, 1, 5, 11))
		}
		p.all(t, store(2, 0, 5, 12))
		p.is(t, "its own", store(1, 0, 5, 13), 0, want)
	}
}

func TestStoreIntoAFilesPage(t *testing.T) { // P18.2: a private page takes one frame, whether the file's page has one or not
	for _, got := range []bool{false, true} {
		p := roomy(t, []int{1}, put(1, 0, 5, 7), filed(1, 0, 1, 1, 0))
		if !got {
			if err := p.evict(t, p.resident(t)); err != api.OK {
				t.Fatal(err)
			}
		}
		free := p.k.Free()
		p.all(t, store(1, 0, 6, 8))
		p.is(t, "the file's byte", load(1, 0, 5), 7, api.OK)
		if p.k.Free() != free-3 {
			t.Errorf("%d frames were taken, want two for tables, and one", free-p.k.Free())
		}
	}
}

func TestIO(t *testing.T) { // P18.2: what reads a place, or a file, may fail, and changes nothing then
	ops := []api.Op{bare(1, 0, 3), store(1, 0, 5, 10), region(1, 8, 1), store(1, 8, 5, 20), shared(1, 12, 2, 1, 0), store(1, 12, 5, 30), filed(1, 16, 2, 1, 0), fork(1)}
	for _, o := range []api.Op{
		load(1, 0, 5), store(1, 0, 5, 1), load(2, 0, 5), store(2, 0, 5, 1), load(1, 8, 5), store(1, 8, 5, 1), load(1, 12, 5), store(1, 12, 5, 1), load(2, 13, 5), store(2, 13, 5, 1),
		load(1, 16, 5), store(1, 16, 5, 1), load(1, 17, 5), store(1, 17, 5, 1), get(1, 0, 5), get(1, 1, 5), put(1, 0, 5, 1), put(1, 1, 5, 1), send(1, 8, 1, 2), send(1, 12, 2, 2), send(1, 16, 2, 1),
	} {
		p := roomy(t, []int{2}, ops...)
		for len(p.k.Resident()) > 0 {
			p.evict(t, p.k.Resident()[0])
		}
		p.plan(t, 1, 1)
		p.plan(t, 2, 1)
		free := p.k.Free()
		if a := p.do(t, o); a.Err != api.ErrIO || p.k.Free() != free || len(p.k.View().Pages) > 1 {
			t.Errorf("%+v: %+v, then %d are free, want %d", o, a, p.k.Free(), free)
		}
		p.all(t, o)
	}
}

func TestSendFailsInTheMiddle(t *testing.T) { // P18.2: what was taken by then is given back
	p := made(t, kern.Shape{Frames: 16, Slots: 4}, []int{9}, bare(1, 0, 2), store(1, 0, 5, 10), shared(1, 2, 9, 1, 0))
	free := p.k.Free()
	for n := 1; n <= 9; n++ {
		p.plan(t, 2, n)
		p.is(t, "a device fails", send(1, 0, 11, 1), 0, api.ErrIO)
		if p.k.Free() != free {
			t.Errorf("%d are free, want %d", p.k.Free(), free)
		}
	}
	p.is(t, "there is room", send(1, 0, 11, 1), 11, api.OK)
	p.is(t, "there is none", send(1, 0, 11, 1), 0, api.ErrNoMem)
	if p.k.Free() != free-9 {
		t.Errorf("%d are free, want %d", p.k.Free(), free-9)
	}
	p.is(t, "anons need none", send(1, 0, 2, 1), 22, api.OK)
}

func TestNeverWithoutRoom(t *testing.T) { // P18.2: kinds that never answer ErrIO, nor ErrNoMem but flat's
	for _, o := range []api.Op{
		unmap(1, 0, 4), unmap(1, 1, 1), unmap(2, 2, 1), unmap(1, 0, 30), protect(1, 1, 2, r), protect(2, 0, 4, 0), protect(1, 0, 1, rw), inherit(1, 1, 1, api.Share), inherit(2, 0, 3, api.None),
		lock(1, 0, 4), lock(2, 1, 1), unlock(1, 0, 4), exit(1), exit(2), advise(1, 1, 2, api.DontNeed), advise(2, 0, 4, api.DontNeed), advise(1, 0, 4, api.WillNeed), size(1, 0), size(1, 4), bare(1, 1, 2), region(1, 0, 4), shared(2, 0, 1, 1, 0),
	} {
		p := made(t, kern.Shape{Frames: 12, Slots: 6}, []int{3}, bare(1, 0, 4), region(1, 8, 2), shared(1, 12, 2, 1, 0), store(1, 0, 5, 10), store(1, 1, 5, 11), store(1, 8, 5, 20), store(1, 12, 5, 30), fork(1), store(2, 0, 5, 12))
		p.out(t, 1, 1)
		p.out(t, 1, 8)
		p.all(t, store(1, 2, 5, 1), store(1, 3, 5, 1), load(1, 13, 5))
		if p.k.Free() > 0 {
			t.Fatalf("%d are free", p.k.Free())
		}
		for device := range 3 {
			p.plan(t, device, 1)
		}
		p.all(t, o)
	}
}

func TestAllComesBack(t *testing.T) { // P18.7, G5: when all have gone all frames are free, but files'
	p := furnished(t)
	for frame := range p.lent {
		p.back(t, frame)
	}
	p.all(t, put(1, 2, 5, 9), exit(1))
	p.is(t, "the other one has its pages", load(2, 22, 5), 70, api.OK)
	p.all(t, exit(2))
	v := p.k.View()
	if len(v.Anons)+len(v.Amaps)+len(v.Areas)+len(v.Leaves)+len(v.Tables) > 0 {
		t.Errorf("there is something left: %+v", v)
	}
	isList(t, "Slots", v.Slots, make([]int, 16))
	if p.k.Free() != 128-len(p.k.Resident()) || len(p.k.Resident()) == 0 {
		t.Errorf("%d frames are free, %d have files' pages", p.k.Free(), len(p.k.Resident()))
	}
	for len(p.k.Resident()) > 0 {
		if err := p.evict(t, p.k.Resident()[0]); err != api.OK {
			t.Fatal(err)
		}
	}
	if p.k.Free() != 128 || len(p.k.View().Pages) > 0 {
		t.Errorf("%d frames are free", p.k.Free())
	}
	p.is(t, "a file's byte", get(1, 2, 5), 9, api.OK)
	for _, kind := range kinds() {
		p.do(t, api.Op{Kind: kind, Proc: 1, File: 1, Pages: 1, To: 1})
	}
}

func TestManyProcesses(t *testing.T) { // P18.2
	p := made(t, kern.Shape{Frames: 64, Slots: 20}, nil, bare(1, 0, 2), store(1, 0, 5, 1))
	for n := 2; n <= maxProcs; n++ {
		p.is(t, "a child", fork(n-1), n, api.OK)
		p.all(t, store(n, 0, 5, n))
	}
	p.is(t, "no more", fork(1), 0, api.ErrNoMem)
	p.all(t, exit(5), exit(1))
	p.is(t, "the lowest one", fork(7), 1, api.OK)
	p.is(t, "the next one", fork(1), 5, api.OK)
	p.is(t, "a child's child", load(5, 0, 5), 7, api.OK)
}

func TestWideEntries(t *testing.T) { // P18.2: more pages than an amap has slots
	p := made(t, kern.Shape{Frames: 64, Slots: 20}, nil, bare(1, 100, maxPages), bare(1, 100+maxPages, maxPages), bare(1, 100+2*maxPages, 30))
	last := 100 + 2*maxPages + 29
	for _, page := range []int{100, 99 + maxPages, 100 + maxPages, 5000, 99 + 2*maxPages, last - 29, last} {
		p.looks = append(p.looks, page)
		p.all(t, store(1, page, 5, page%251))
	}
	if n := len(p.k.Entries(1)); n != 1 {
		t.Errorf("%d entries", n)
	}
	p.areas(t, "chunks", kern.Area{Proc: 1, Lo: 100, Hi: 100 + maxPages, Amap: 1}, kern.Area{Proc: 1, Lo: 100 + maxPages, Hi: 100 + 2*maxPages, Amap: 2}, kern.Area{Proc: 1, Lo: last - 29, Hi: last + 1, Amap: 3})
	p.all(t, fork(1), protect(1, 100+maxPages, 30, r), unmap(1, 5000, maxPages), fork(1))
	p = made(t, kern.Shape{Frames: 64, Slots: 20}, nil, bare(1, 100, maxPages), bare(1, 100+maxPages, maxPages), bare(1, 100+2*maxPages, 30))
	p.looks = append(p.looks, 5000, last, 100, maxVPN-1)
	p.all(t, store(1, 5000, 5, 1), store(1, last, 5, 2), store(1, 100, 5, 3))
	p.areas(t, "chunks", kern.Area{Proc: 1, Lo: 100, Hi: 100 + maxPages, Amap: 3}, kern.Area{Proc: 1, Lo: 100 + maxPages, Hi: 100 + 2*maxPages, Amap: 1}, kern.Area{Proc: 1, Lo: last - 29, Hi: last + 1, Amap: 2})
	p.all(t, bare(1, maxVPN-3, 3), store(1, maxVPN-1, 4095, 255))
	p.is(t, "the last page", load(1, maxVPN-1, 4095), 255, api.OK)
}

func TestWithoutSpace(t *testing.T) { // P18.2: beside it nothing changes
	k, _ := kern.New(kern.Shape{Frames: 64, Slots: 20}, nil)
	do := func(o api.Op, n int, err api.Errno) {
		t.Helper()
		if a := k.Do(o); a != (api.Answer{Err: err, N: n}) {
			t.Fatalf("%+v: %+v, want %d, %v", o, a, n, err)
		}
	}
	for addr := 0; addr < maxVPN; addr += maxPages {
		do(bare(1, addr, maxPages), addr, api.OK)
	}
	do(store(1, 5, 5, 7), 0, api.OK)
	do(fork(1), 2, api.OK)
	do(bare(2, 9, 2), 9, api.OK)
	do(store(2, 9, 5, 8), 0, api.OK)
	free := k.Free()
	do(send(2, 9, 2, 1), 0, api.ErrNoMem)
	do(with(bare(1, -1, 1), func(o *api.Op) { o.Fixed = false }), 0, api.ErrNoMem)
	if wrong := counted(k.View(), k.Procs(), k.Entries); len(wrong) > 0 || k.Free() != free {
		t.Errorf("%d are free, want %d; %q", k.Free(), free, wrong)
	}
	do(load(1, 0, 5), 0, api.OK)
	do(unmap(1, maxVPN-2, 2), 0, api.OK)
	do(send(2, 9, 2, 1), maxVPN-2, api.OK)
	do(load(1, maxVPN-2, 5), 8, api.OK)
}

// crowded is a kernel of which process 1 has so many pages side by side, every other one unmapped, that children share.
func crowded(t *testing.T, pages int) *kern.Kernel {
	t.Helper()
	k, _ := kern.New(kern.Shape{Frames: 64, Slots: 20}, []int{1})
	for n := range pages {
		for _, o := range []api.Op{bare(1, 2*n, 1), inherit(1, 2*n, 1, api.Share)} {
			if a := k.Do(o); a.Err != api.OK {
				t.Fatalf("%+v: %v", o, a)
			}
		}
	}
	return k
}

func TestWithoutAmaps(t *testing.T) { // P18.2: no more than MaxItems areas may have one of their own
	k := crowded(t, api.MaxItems+1)
	is := func(what string, o api.Op, n int, err api.Errno) {
		t.Helper()
		free, frames := k.Free(), k.Resident()
		if a := k.Do(o); a != (api.Answer{Err: err, N: n}) {
			t.Errorf("%s: %+v: %+v, want %d, %v", what, o, a, n, err)
		}
		if err != api.OK && (k.Free() != free || len(k.Resident()) != len(frames)) {
			t.Errorf("%s: beside an error %d are free, want %d", what, k.Free(), free)
		}
	}
	is("one too many", fork(1), 0, api.ErrNoMem)
	isList(t, "Procs", k.Procs(), []int{1})
	is("none is left", store(1, 2*api.MaxItems, 5, 1), 0, api.ErrNoMem)
	is("none is left", load(1, 2*api.MaxItems, 5), 0, api.ErrNoMem)
	is("one that has one", store(1, 2, 5, 1), 0, api.OK)
	is("none is left", send(1, 2, 1, 1), 0, api.ErrNoMem)
	is("noughts need none", send(1, 4, 1, 1), 1, api.OK)
	is("one page less", unmap(1, 2*api.MaxItems, 1), 0, api.OK)
	is("as many as may be", fork(1), 2, api.OK)
	is("shared", load(2, 2, 5), 1, api.OK)
	is("one that has one", inherit(1, 2, 1, api.Copy), 0, api.OK)
	is("a copy of what is shared", fork(1), 0, api.ErrNoMem)
	is("one goes", unmap(1, 0, 1), 0, api.OK)
	is("the child has it still", fork(1), 0, api.ErrNoMem)
	is("one goes", unmap(2, 0, 1), 0, api.OK)
	is("there is one", fork(1), 3, api.OK)
	is("a copy", store(2, 2, 5, 7), 0, api.OK)
	is("a copy", load(3, 2, 5), 1, api.OK)
	if wrong := counted(k.View(), k.Procs(), k.Entries); len(wrong) > 0 {
		t.Errorf("%q", wrong[:1])
	}
}

func TestShareWithoutAmaps(t *testing.T) { // P18.2: what Needs can't be shared without one of its own
	const page, last = 2 * api.MaxItems, 2*api.MaxItems + 2
	k := crowded(t, api.MaxItems-2)
	do := func(o api.Op, n int, err api.Errno) {
		t.Helper()
		if a := k.Do(o); a != (api.Answer{Err: err, N: n}) {
			t.Errorf("%+v: %+v, want %d, %v", o, a, n, err)
		}
	}
	do(bare(1, page, 1), page, api.OK)
	do(bare(1, last, 1), last, api.OK)
	do(store(1, page, 5, 7), 0, api.OK)
	do(fork(1), 2, api.OK)
	do(store(1, last, 5, 8), 0, api.OK)
	do(inherit(1, page, 1, api.Share), 0, api.OK)
	do(fork(1), 0, api.ErrNoMem)
	if wrong := counted(k.View(), k.Procs(), k.Entries); len(wrong) > 0 {
		t.Errorf("%q", wrong[:1])
	}
	do(exit(2), 0, api.OK)
	do(fork(1), 2, api.OK)
	do(store(2, page, 5, 9), 0, api.OK)
	do(load(1, page, 5), 9, api.OK)
}

func TestHeldAsOftenAsMayBe(t *testing.T) { // P18.2: an anon that stands in a million slots
	const most = 1000000
	k, _ := kern.New(kern.Shape{Frames: 64, Slots: 20}, nil)
	do := func(o api.Op, want api.Errno) {
		t.Helper()
		if a := k.Do(o); a.Err != want {
			t.Fatalf("%+v: %+v, want %v", o, a, want)
		}
	}
	do(bare(1, 0, 1), api.OK)
	do(store(1, 0, 5, 7), api.OK)
	refs := func() int { return k.View().Anons[0].Refs }
	n := 1
	for n < most {
		pages := min(n, maxPages, most-n)
		do(send(1, 0, pages, 1), api.OK)
		n += pages
	}
	if refs() != most || len(k.View().Anons) != 1 {
		t.Fatalf("Refs %d", refs())
	}
	free := k.Free()
	do(send(1, 5, 1, 1), api.OK)
	if refs() != most || k.Free() != free-1 {
		t.Errorf("one more: %d, %d are free", refs(), k.Free())
	}
	do(send(1, 0, maxPages, 1), api.ErrNoMem)
	if refs() != most || k.Free() != free-1 {
		t.Errorf("no room for so many: %d, %d are free", refs(), k.Free())
	}
	do(protect(1, 100, most-100, rw), api.ErrInval)
	do(inherit(1, 0, 64, api.Copy), api.OK)
	for page := 64; page < most; page += maxPages {
		do(inherit(1, page, min(maxPages, most-page), api.None), api.OK)
	}
	do(fork(1), api.OK)
	do(unmap(2, 32, 1), api.OK)
	amaps := len(k.View().Amaps)
	do(store(2, 40, 5, 8), api.ErrNoMem)
	if n := len(k.View().Amaps); n != amaps {
		t.Errorf("a store that may not hold it: %d amaps, want %d", n, amaps)
	}
	if b, _ := k.Byte(2, 40, 5); refs() != most || b != 7 {
		t.Errorf("a store that may not hold it: %d, %d", refs(), b)
	}
	do(unmap(1, 64, maxPages), api.OK)
	do(store(2, 40, 5, 8), api.OK)
	if b, _ := k.Byte(1, 40, 5); b != 7 {
		t.Errorf("the parent's: %d", b)
	}
}
