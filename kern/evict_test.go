package kern_test

import (
	"slices"
	"testing"

	"pantry/api"
	"pantry/frames"
	"pantry/kern"
)

// at tells the frame that a process's page means; -1, if that has none.
func (p *pair) at(proc, page int) int {
	return frameOf(p.k.View(), p.k.Entries(proc), proc, page)
}

// out evicts what a page means.
func (p *pair) out(t *testing.T, proc, page int) {
	t.Helper()
	if err := p.evict(t, p.at(proc, page)); err != api.OK {
		t.Fatalf("Evict of page %d of %d: %v", page, proc, err)
	}
}

// places tells the states of all places.
func (p *pair) places() []int { return p.k.View().Slots }

func TestResident(t *testing.T) { // P18.4: anons' and objects' frames alone, rising
	p := roomy(t, []int{2}, bare(1, 0, 4), store(1, 0, 0, 1), shared(1, 8, 2, 1, 0), load(1, 8, 0), region(1, 12, 1), store(1, 12, 0, 1), store(1, 1, 0, 1))
	want := []int{p.at(1, 0), p.at(1, 1), p.at(1, 8), p.at(1, 12)}
	slices.Sort(want)
	isList(t, "Resident", p.k.Resident(), want)
	frame, _ := p.lend(t, 1, 0)
	isList(t, "lent", p.k.Resident(), want)
	p.all(t, unmap(1, 0, 1))
	isList(t, "lent, and nobody's", p.k.Resident(), slices.DeleteFunc(slices.Clone(want), func(f int) bool { return f == frame }))
	p.all(t, fork(1), exit(1), exit(2))
	isList(t, "a file's page", p.k.Resident(), []int{want[slices.IndexFunc(want, func(f int) bool { return p.k.View().Frames[f].Class == frames.File })]})
}

func TestSeen(t *testing.T) { // P18.4
	for _, size := range []int{0, 1, 20} {
		p := made(t, kern.Shape{Frames: 32, Slots: 8, Tlb: size}, []int{2}, bare(1, 0, 4), shared(1, 8, 2, 1, 0), store(1, 0, 0, 1))
		seen := func(what string, frame int, want bool) {
			t.Helper()
			if got := p.k.Seen(frame); got != want {
				t.Errorf("Seen, %s, with a tlb of %d: %v", what, size, got)
			}
			p.right(t, "Seen")
			if p.k.Seen(frame) {
				t.Errorf("Seen twice, %s, with a tlb of %d", what, size)
			}
		}
		f := p.at(1, 0)
		seen("stored", f, true)
		p.all(t, load(1, 0, 0))
		seen("loaded", f, true)
		p.all(t, store(1, 0, 0, 2))
		seen("stored once more", f, true)
		p.all(t, load(1, 0, 0), load(1, 0, 1), fork(1))
		seen("loaded ahead of a fork", f, true)
		p.all(t, load(2, 0, 0))
		seen("loaded by another process", f, true)
		p.all(t, load(1, 0, 0), load(2, 0, 0), protect(2, 0, 1, 0))
		seen("loaded by both, of which one may no more", f, true)
		p.all(t, load(1, 0, 0), protect(1, 0, 1, r))
		seen("loaded ahead of a Protect", f, true)
		p.all(t, load(1, 8, 0))
		seen("a file's page", p.at(1, 8), true)
		p.all(t, get(1, 0, 0), put(1, 0, 0, 5))
		seen("a file's page that no process used", p.at(1, 8), false)
		p.all(t, load(1, 0, 0), load(1, 8, 0))
		p.lend(t, 1, 0)
		p.k.Byte(1, 0, 0)
		seen("lent", f, true)
		p.lend(t, 1, 0)
		seen("lent alone", f, false)
		p.all(t, load(1, 0, 0), load(1, 8, 0), store(2, 1, 0, 1))
		for frame := range p.k.View().Frames {
			if c := p.k.View().Frames[frame].Class; c == frames.Table || c == frames.Free {
				seen("no page's", frame, false)
			}
		}
		for _, n := range append(far(), -1, 32) {
			seen("no frame", n, false)
		}
		seen("nobody asked of", f, true)
	}
}

func TestEvict(t *testing.T) { // P18.4: an anon's, a region's, a file's
	p := roomy(t, []int{2}, bare(1, 0, 4), store(1, 0, 5, 10), region(1, 8, 2), store(1, 9, 5, 20), shared(1, 12, 2, 1, 0), store(1, 13, 5, 30))
	for _, page := range []int{0, 9, 13} {
		frame := p.at(1, page)
		p.out(t, 1, page)
		if err := p.evict(t, frame); err != api.ErrNone {
			t.Errorf("Evict of page %d once more: %v", page, err)
		}
		if p.at(1, page) != -1 || p.k.View().Frames[frame] != (frames.Frame{}) {
			t.Errorf("page %d is still in frame %d", page, frame)
		}
	}
	isList(t, "Slots", p.places()[:3], []int{1, 1, 0})
	isList(t, "Resident", p.k.Resident(), nil)
	if len(p.k.View().Leaves) > 0 {
		t.Error("there are leaves")
	}
	p.is(t, "behind Evict", load(1, 0, 5), 10, api.OK)
	p.is(t, "behind Evict", load(1, 9, 5), 20, api.OK)
	p.is(t, "behind Evict", load(1, 13, 5), 30, api.OK)
	isList(t, "Slots behind loads", p.places()[:3], []int{0, 0, 0})
}

func TestEvictOfNone(t *testing.T) { // P18.4
	p := roomy(t, nil, bare(1, 0, 2), store(1, 0, 5, 10), store(1, 1, 5, 10))
	lent, _ := p.lend(t, 1, 1)
	p.all(t, unmap(1, 1, 1))
	for frame, f := range p.k.View().Frames {
		if err := p.k.Evict(frame); f.Class != frames.Anon && err != api.ErrNone {
			t.Errorf("Evict(%d), which is %+v: %v", frame, f, err)
		}
	}
	for _, frame := range append(far(), -1, 64, lent) {
		if err := p.evict(t, frame); err != api.ErrNone {
			t.Errorf("Evict(%d): %v", frame, err)
		}
	}
}

func TestEvictOfBusy(t *testing.T) { // P18.4
	p := roomy(t, []int{2}, bare(1, 0, 4), shared(1, 8, 2, 1, 0), filed(1, 10, 2, 1, 0), region(1, 14, 1), store(1, 0, 5, 10), load(1, 8, 5), load(1, 9, 5), load(1, 14, 0), fork(1))
	busy := func(what string, page int, want api.Errno) {
		t.Helper()
		frame := p.at(1, page)
		if err := p.evict(t, frame); err != want {
			t.Errorf("%s: Evict of page %d: %v, want %v", what, page, err, want)
		}
		if want == api.OK {
			p.all(t, load(1, page, 5))
		}
	}
	frame, _ := p.lend(t, 1, 0)
	p.lend(t, 2, 0)
	busy("lent twice", 0, api.ErrBusy)
	p.back(t, frame)
	busy("lent", 0, api.ErrBusy)
	p.back(t, frame)
	busy("lent no more", 0, api.OK)

	for _, proc := range []int{1, 2} {
		p.all(t, lock(proc, 0, 1))
		busy("wired", 0, api.ErrBusy)
		p.all(t, unlock(proc, 0, 1), lock(proc, 1, 3))
		busy("others are wired", 0, api.OK)
		p.all(t, unlock(proc, 1, 3), lock(proc, 8, 1))
		busy("wired", 8, api.ErrBusy)
		busy("another one is wired", 9, api.OK)
		p.all(t, unlock(proc, 8, 1), lock(proc, 10, 1))
		busy("a private page that means it is wired", 8, api.ErrBusy)
		p.all(t, store(proc, 10, 5, 1))
		busy("a private page with bytes of its own is wired", 8, api.OK)
		p.all(t, unlock(proc, 10, 1), lock(proc, 14, 1))
		busy("a region's page is wired", 14, api.ErrBusy)
		p.all(t, unlock(proc, 14, 1))
		busy("none is wired", 14, api.OK)
	}
	p.all(t, lock(2, 0, 1), unmap(2, 0, 1))
	busy("wired, and unmapped", 0, api.OK)
	p.all(t, lock(2, 8, 1), exit(2))
	busy("wired, and gone", 8, api.OK)
}

func TestEvictBesideWiredPages(t *testing.T) { // P18.4: that others are wired, beside it, matters not
	p := roomy(t, []int{4}, bare(1, 0, 3), store(1, 0, 5, 10), store(1, 1, 5, 11), store(1, 2, 5, 12), fork(1), unmap(2, 0, 1), unmap(2, 2, 1), bare(2, 0, 1), bare(2, 2, 1), lock(2, 0, 1), lock(2, 2, 1))
	for page := range 3 {
		p.out(t, 1, page)
	}
	p = roomy(t, []int{4}, shared(1, 10, 2, 1, 1), filed(1, 20, 2, 1, 1))
	for _, page := range []int{9, 12, 19, 22} {
		p.all(t, region(1, page, 1), lock(1, page, 1), store(1, page, 5, 7))
	}
	for page := range 4 {
		p.all(t, get(1, page, 5))
		if err := p.evict(t, frameIn(p.k.View(), 1, page)); err != api.OK {
			t.Errorf("Evict of the file's page %d: %v", page, err)
		}
	}
	p.all(t, size(1, 0), size(1, 4))
	if n := len(p.k.View().Leaves); n != 4 {
		t.Errorf("%d leaves, want 4", n)
	}
}

func TestBusyIsAheadOfNoMem(t *testing.T) { // P18.4, R2
	p := made(t, kern.Shape{Frames: 9}, nil, bare(1, 0, 2), store(1, 0, 5, 10), store(1, 1, 5, 11), lock(1, 0, 1))
	for page, want := range []api.Errno{api.ErrBusy, api.ErrNoMem} {
		if err := p.evict(t, p.at(1, page)); err != want {
			t.Errorf("Evict of page %d: %v, want %v", page, err, want)
		}
	}
}

func TestEvictWithoutPlaces(t *testing.T) { // P18.4: a file's page needs none
	p := made(t, kern.Shape{Frames: 12, Slots: 1}, []int{1}, bare(1, 0, 3), store(1, 0, 5, 10), store(1, 1, 5, 11), region(1, 4, 1), store(1, 4, 5, 12), shared(1, 6, 1, 1, 0), store(1, 6, 5, 13))
	p.out(t, 1, 0)
	for _, page := range []int{1, 4} {
		if err := p.evict(t, p.at(1, page)); err != api.ErrNoMem {
			t.Errorf("Evict of page %d: %v", page, err)
		}
	}
	p.out(t, 1, 6)
	p.all(t, load(1, 0, 5))
	p.out(t, 1, 4)
	p.all(t, unmap(1, 4, 1))
	p.out(t, 1, 1)
}

func TestBadPlaces(t *testing.T) { // P18.4: another one is tried, as long as one is free
	p := made(t, kern.Shape{Frames: 12, Slots: 3}, nil, bare(1, 0, 3), store(1, 0, 5, 10), store(1, 1, 5, 11), region(1, 4, 1), store(1, 4, 5, 12))
	p.plan(t, 0, 1)
	p.out(t, 1, 0)
	isList(t, "another place", p.places(), []int{2, 1, 0})
	p.plan(t, 0, 1)
	if err := p.evict(t, p.at(1, 4)); err != api.ErrIO {
		t.Errorf("no other place: %v", err)
	}
	isList(t, "bad places", p.places(), []int{2, 1, 2})
	if err := p.evict(t, p.at(1, 4)); err != api.ErrNoMem {
		t.Errorf("no place: %v", err)
	}
	p.all(t, load(1, 0, 5))
	p.plan(t, 0, 1)
	if err := p.evict(t, p.at(1, 1)); err != api.ErrIO {
		t.Errorf("the last place: %v", err)
	}
	isList(t, "all are bad", p.places(), []int{2, 2, 2})
}

func TestEvictOfFilesPages(t *testing.T) { // P18.4: written, if they have changed
	changed := func(what string, want bool, ops ...api.Op) {
		t.Helper()
		p := roomy(t, []int{2}, shared(1, 0, 2, 1, 0), filed(1, 4, 2, 1, 0))
		p.all(t, ops...)
		frame := frameIn(p.k.View(), 1, 0)
		p.plan(t, 2, 1)
		if err := p.evict(t, frame); (err == api.ErrIO) != want || !want && err != api.OK {
			t.Errorf("%s: Evict: %v", what, err)
		}
		if !want {
			return
		}
		if p.at(1, 0) != frame {
			t.Errorf("%s: beside an error it is not there any more", what)
		}
		if err := p.evict(t, frame); err != api.OK {
			t.Errorf("%s: once more: %v", what, err)
		}
		p.all(t, load(1, 0, 5))
		p.plan(t, 2, 1)
		if err := p.evict(t, p.at(1, 0)); err != api.OK {
			t.Errorf("%s: not changed since: %v", what, err)
		}
	}
	changed("loaded", false, load(1, 0, 0))
	changed("got", false, get(1, 0, 0))
	changed("loaded by a private page", false, load(1, 4, 0))
	changed("stored into a private page", false, load(1, 4, 0), store(1, 4, 0, 7))
	changed("stored", true, store(1, 0, 0, 7))
	changed("loaded, and stored", true, load(1, 0, 0), store(1, 0, 0, 7))
	changed("stored, and loaded", true, store(1, 0, 0, 7), load(1, 0, 0))
	changed("put", true, put(1, 0, 0, 7))
	changed("loaded, and put", true, load(1, 0, 0), put(1, 0, 0, 7))
	changed("another page", false, load(1, 0, 0), put(1, 1, 0, 7), store(1, 1, 0, 7))
	changed("stored, and in the file", false, store(1, 0, 5, 7), sync(1))
	changed("put, and in the file", false, put(1, 0, 5, 7), sync(1))
	changed("stored behind that", true, store(1, 0, 5, 7), sync(1), store(1, 0, 5, 8))
	changed("loaded and stored behind that", true, store(1, 0, 5, 7), sync(1), load(1, 0, 5), store(1, 0, 5, 8))
	changed("stored by a child behind that", true, store(1, 0, 5, 7), fork(1), store(2, 0, 5, 7), sync(1), store(2, 0, 5, 8))
	changed("put behind that", true, put(1, 0, 5, 7), sync(1), put(1, 0, 5, 8))
	changed("stored, and forked", true, store(1, 0, 5, 7), fork(1), exit(2))
}

func TestSync(t *testing.T) { // P18.2: an error changes nothing; what is written is written no more
	p := roomy(t, []int{3, 2}, shared(1, 0, 3, 1, 0), shared(1, 4, 2, 2, 0))
	for page := range 3 {
		p.all(t, store(1, page, 5, 10+page))
	}
	p.all(t, store(1, 4, 5, 20))
	p.plan(t, 2, 2)
	p.is(t, "the second page", sync(1), 0, api.ErrIO)
	p.plan(t, 2, 3)
	p.is(t, "two pages", sync(1), 0, api.OK)
	p.is(t, "no page", sync(1), 0, api.OK)
	p.is(t, "the other file", sync(2), 0, api.ErrIO)
	p.is(t, "the other file", sync(2), 0, api.OK)
	p.is(t, "no file", sync(3), 0, api.ErrNone)
}

func TestLend(t *testing.T) { // P18.5: the frame that a page means; its bytes stay, whatever is stored
	p := roomy(t, []int{2}, bare(1, 0, 4), store(1, 0, 5, 10), fork(1))
	f, err := p.lend(t, 1, 0)
	if err != api.OK || f != p.at(1, 0) || p.k.View().Frames[f].Loan != 1 {
		t.Errorf("Lend: %d, %v", f, err)
	}
	if g, err := p.lend(t, 2, 0); g != f || err != api.OK || p.k.View().Frames[f].Loan != 2 {
		t.Errorf("Lend of the same frame: %d, %v", g, err)
	}
	p.all(t, store(1, 0, 5, 11), store(2, 0, 5, 12), store(2, 0, 5, 13), exit(2), unmap(1, 0, 1))
	if c := p.k.View().Frames[f]; c != (frames.Frame{Class: frames.Loose, Loan: 2}) {
		t.Errorf("what nobody has: %+v", c)
	}
	free := p.k.Free()
	for n, want := range []struct {
		err  api.Errno
		free int
	}{{api.OK, free}, {api.OK, free + 1}, {api.ErrNone, free + 1}} {
		if err := p.back(t, f); err != want.err || p.k.Free() != want.free {
			t.Errorf("Back %d: %v, %d are free, want %v", n, err, p.k.Free(), want)
		}
	}
}

func TestLendKeepsBytes(t *testing.T) { // P18.5: pages of all kinds, one that has no bytes yet among them
	for page, ops := range map[int][]api.Op{
		0:  {store(1, 0, 5, 11), advise(1, 0, 1, api.DontNeed), store(1, 0, 5, 12), unmap(1, 0, 1)},
		1:  {store(1, 1, 5, 11), fork(1), store(2, 1, 5, 12), store(1, 1, 5, 13), exit(1), exit(2)},
		8:  {store(1, 8, 5, 11), put(1, 0, 5, 12), fork(1), store(2, 8, 5, 13), sync(1), size(1, 0), size(1, 2)},
		9:  {put(1, 1, 5, 11), store(1, 9, 5, 12), size(1, 1), unmap(1, 8, 2)},
		12: {store(1, 12, 5, 11), put(1, 0, 5, 12), size(1, 0), exit(1)},
		13: {put(1, 1, 5, 11), store(1, 13, 5, 12), put(1, 1, 5, 13), advise(1, 13, 1, api.DontNeed)},
		16: {fork(1), store(2, 16, 5, 11), store(1, 16, 5, 12), unmap(1, 16, 1), exit(2)},
		17: {store(1, 17, 5, 11), fork(1), exit(1), store(2, 17, 5, 12), unmap(2, 16, 2)},
	} {
		for _, seldom := range []bool{false, true} {
			p := roomy(t, []int{2}, bare(1, 0, 2), shared(1, 8, 2, 1, 0), filed(1, 12, 2, 1, 0), region(1, 16, 2), store(1, 0, 5, 10), store(1, 8, 5, 20), store(1, 12, 5, 30), store(1, 16, 5, 40))
			if seldom && p.at(1, page) >= 0 {
				p.out(t, 1, page)
			}
			f, err := p.lend(t, 1, page)
			if err != api.OK {
				t.Errorf("Lend of page %d: %v", page, err)
			}
			p.all(t, ops...)
			p.back(t, f)
			if c := p.k.View().Frames[f].Class; c == frames.Loose {
				t.Errorf("page %d: behind the last Back frame %d is still nobody's", page, f)
			}
		}
	}
}

func TestStoreBehindBack(t *testing.T) { // P18.5: it takes no frame any more
	p := roomy(t, []int{1}, bare(1, 0, 1), shared(1, 4, 1, 1, 0), store(1, 0, 5, 10), store(1, 4, 5, 20))
	for _, page := range []int{0, 4} {
		f, _ := p.lend(t, 1, page)
		p.back(t, f)
		free := p.k.Free()
		p.all(t, store(1, page, 5, 11))
		if p.at(1, page) != f || p.k.Free() != free {
			t.Errorf("page %d is in frame %d, and was in %d", page, p.at(1, page), f)
		}
		p.lend(t, 1, page)
		p.all(t, store(1, page, 5, 12))
		if p.at(1, page) == f || p.k.Free() != free-1 {
			t.Errorf("page %d is in the frame that is lent", page)
		}
	}
}

func TestLendsErrors(t *testing.T) { // P18.5, R2
	p := made(t, kern.Shape{Frames: 6, Slots: 2}, []int{1}, bare(1, 0, 3), prots(bare(1, 4, 1), w), shared(1, 6, 2, 1, 0), store(1, 0, 5, 10), store(1, 1, 5, 11))
	tests := []struct {
		proc, page int
		want       api.Errno
	}{
		{0, 0, api.ErrNone}, {2, -1, api.ErrNone}, {-1, 0, api.ErrNone}, {1, -1, api.ErrFault}, {1, 3, api.ErrFault}, {1, maxVPN, api.ErrFault}, {1, 4, api.ErrAccess}, {1, 7, api.ErrFault}, {1, 0, api.OK},
	}
	for _, x := range tests {
		if _, err := p.lend(t, x.proc, x.page); err != x.want {
			t.Errorf("Lend(%d, %d): %v, want %v", x.proc, x.page, err, x.want)
		}
	}
	for _, n := range far() {
		_, none := p.lend(t, n, 0)
		_, fault := p.lend(t, 1, n)
		if none != api.ErrNone || fault != api.ErrFault {
			t.Errorf("Lend with %d: %v, %v", n, none, fault)
		}
	}
	p.out(t, 1, 1)
	p.plan(t, 1, 1)
	p.plan(t, 2, 1)
	for _, page := range []int{1, 6} {
		if _, err := p.lend(t, 1, page); err != api.ErrIO {
			t.Errorf("Lend of page %d: %v", page, err)
		}
	}
	if len(p.k.Resident()) != 1 {
		t.Errorf("beside an error: %v are Resident", p.k.Resident())
	}
	f, err := p.lend(t, 1, 1)
	if err != api.OK || p.k.Free() != 1 {
		t.Errorf("there is room: %v, %d are free", err, p.k.Free())
	}
	p.all(t, store(1, 2, 5, 12))
	if _, err := p.lend(t, 1, 6); err != api.ErrNoMem {
		t.Errorf("there is no room: %v", err)
	}
	p.is(t, "no room beside what is lent", store(1, 1, 5, 13), 0, api.ErrNoMem)
	p.back(t, f)
	p.is(t, "it is back", store(1, 1, 5, 13), 0, api.OK)
}

func TestBackOfNone(t *testing.T) { // P18.5
	p := roomy(t, nil, bare(1, 0, 2), store(1, 0, 5, 10), store(1, 1, 5, 10))
	f, _ := p.lend(t, 1, 0)
	for _, frame := range append(far(), -1, 64, 0, 63, p.at(1, 1)) {
		if err := p.back(t, frame); err != api.ErrNone {
			t.Errorf("Back(%d): %v", frame, err)
		}
	}
	if err := p.back(t, f); err != api.OK {
		t.Errorf("Back: %v", err)
	}
	if err := p.back(t, f); err != api.ErrNone {
		t.Errorf("Back once too often: %v", err)
	}
}

func TestFrameByte(t *testing.T) { // P18.5
	p := roomy(t, nil, bare(1, 0, 2), store(1, 0, 0, 10), store(1, 0, 4095, 255), store(1, 1, 0, 12))
	f, _ := p.lend(t, 1, 0)
	tests := []struct {
		frame, at, want int
		ok              bool
	}{
		{f, -1, 0, false}, {f, 0, 10, true}, {f, 1, 0, true}, {f, 4095, 255, true}, {f, 4096, 0, false}, {p.at(1, 1), 0, 0, false}, {0, 0, 0, false}, {-1, 0, 0, false}, {64, 0, 0, false}, {63, 0, 0, false},
	}
	for _, n := range far() {
		tests = append(tests, struct {
			frame, at, want int
			ok              bool
		}{frame: n}, struct {
			frame, at, want int
			ok              bool
		}{frame: f, at: n})
	}
	for _, x := range tests {
		if b, ok := p.k.FrameByte(x.frame, x.at); b != x.want || ok != x.ok {
			t.Errorf("FrameByte(%d, %d): %d, %v, want %d, %v", x.frame, x.at, b, ok, x.want, x.ok)
		}
	}
	p.back(t, f)
	if b, ok := p.k.FrameByte(f, 0); b != 0 || ok {
		t.Errorf("FrameByte behind Back: %d, %v", b, ok)
	}
}

func TestLentAsOftenAsMayBe(t *testing.T) { // P18.5, R1: then there is no room
	p := roomy(t, nil, bare(1, 0, 1))
	f, _ := p.k.Lend(1, 0)
	for n := 1; n < 1000000; n++ {
		if _, err := p.k.Lend(1, 0); err != api.OK {
			t.Fatalf("Lend, the %d-th time: %v", n+1, err)
		}
	}
	if g, err := p.k.Lend(1, 0); g != 0 || err != api.ErrNoMem {
		t.Errorf("Lend: %d, %v", g, err)
	}
	p.k.Back(f)
	if g, err := p.k.Lend(1, 0); g != f || err != api.OK {
		t.Errorf("Lend behind Back: %d, %v", g, err)
	}
}
