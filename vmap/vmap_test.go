package vmap_test

import (
	"maps"
	"math"
	"slices"
	"testing"

	"pantry/api"
	"pantry/vmap"
)

const (
	maxVPN   = 1 << 26
	maxPages = 4096
)

// far has numbers that are nowhere near any page, nor any number of pages.
func far() []int {
	return []int{-2, -maxVPN, maxVPN + 2, 2 * maxVPN, 1 << 31, 1 << 32, 1<<32 + 1, -1 << 32, 1 - 1<<32, 1 << 62, -1 << 62, math.MinInt, math.MinInt + 1, math.MaxInt, math.MaxInt - 1}
}

// bare is an entry of no file, for Map.
func bare(pages int) api.Entry {
	return api.Entry{End: pages, Prot: api.Read, Max: 7}
}

// filed is an entry of file 3, for Map.
func filed(pages, off int) api.Entry {
	e := bare(pages)
	e.File, e.Off = 3, off
	return e
}

// full is an entry of which no field is zero, but for Start, for Map.
func full(pages, off int) api.Entry {
	return api.Entry{End: pages, File: 7, Off: off, Shared: true, Prot: api.Read | api.Exec, Max: 7, Inherit: api.Share, Advice: api.WillNeed, Wired: true}
}

// put is an entry as it stands at a page.
func put(e api.Entry, at int) api.Entry {
	e.Start, e.End = at, at+e.End-e.Start
	return e
}

// with is an entry that something was done to.
func with(e api.Entry, change func(*api.Entry)) api.Entry {
	change(&e)
	return e
}

// part is what an entry has from lo up to below hi.
func part(e api.Entry, lo, hi int) api.Entry {
	if e.File > 0 {
		e.Off += lo - e.Start
	}
	e.Start, e.End = lo, hi
	return e
}

// world is each page's entry, as one of that page alone.
type world map[int]api.Entry

// list tells what the pages from lo to below hi have, in entries that are as long as may be.
func (w world) list(lo, hi int) []api.Entry {
	var l []api.Entry
	for _, page := range slices.Sorted(maps.Keys(w)) {
		last := len(l) - 1
		switch {
		case page < lo || page >= hi:
		case last >= 0 && l[last].End == page && part(l[last], page, page+1) == w[page]:
			l[last].End++
		default:
			l = append(l, w[page])
		}
	}
	return l
}

// lay makes an entry's pages have it.
func (w world) lay(e api.Entry) {
	for page := e.Start; page < e.End; page++ {
		w[page] = part(e, page, page+1)
	}
}

// take makes pages have none.
func (w world) take(lo, pages int) {
	for page := range pages {
		delete(w, lo+page)
	}
}

// free tells whether so many pages from lo on may have an entry, and have none.
func (w world) free(lo, pages int) bool {
	for page := lo; page < lo+pages; page++ {
		if _, has := w[page]; has {
			return false
		}
	}
	return lo <= maxVPN-pages
}

// space tells the lowest page from hint on, else from 0 on, where so many pages are free.
func (w world) space(hint, pages int) (int, bool) {
	for _, lowest := range []int{max(0, hint), 0} {
		if lowest < maxVPN && w.free(lowest, pages) {
			return lowest, true
		}
		for _, page := range slices.Sorted(maps.Keys(w)) {
			if page+1 > lowest && w.free(page+1, pages) {
				return page + 1, true
			}
		}
	}
	return 0, false
}

// twin is a map, and what it is to have.
type twin struct {
	m *vmap.Map
	w world
}

// made is a map of entries, each of which stands where it says.
func made(t *testing.T, entries ...api.Entry) twin {
	t.Helper()
	x := twin{vmap.New(), world{}}
	for _, e := range entries {
		at, _, err := x.m.Map(e.Start, e, true)
		if at != e.Start || err != api.OK {
			t.Fatalf("Map(%d, %v): %d, %v", e.Start, e, at, err)
		}
		x.w.lay(e)
	}
	x.has(t, "behind the making")
	return x
}

// isList asks whether a list is as it is to be.
func isList(t *testing.T, what string, got []api.Entry, want ...api.Entry) {
	t.Helper()
	if !slices.Equal(got, want) {
		t.Fatalf("%s:\n%v, want\n%v", what, got, want)
	}
}

// finds asks At for its answer.
func finds(t *testing.T, what string, m *vmap.Map, page int, want api.Entry, has bool) {
	t.Helper()
	if e, ok := m.At(page); e != want || ok != has {
		t.Fatalf("%s: At(%d): %v, %v, want %v, %v", what, page, e, ok, want, has)
	}
}

// has asks whether a map has what it is to have.
func (x twin) has(t *testing.T, what string) {
	t.Helper()
	l := x.w.list(0, maxVPN)
	isList(t, what, x.m.Entries(), l...)
	for k, e := range l {
		finds(t, what, x.m, e.Start, e, true)
		finds(t, what, x.m, e.End-1, e, true)
		if k == 0 || l[k-1].End < e.Start {
			finds(t, what, x.m, e.Start-1, api.Entry{}, false)
		}
		if k == len(l)-1 || e.End < l[k+1].Start {
			finds(t, what, x.m, e.End, api.Entry{}, false)
		}
	}
}

// maps asks Map for its answer; e's Start and End may be anything, if the answer is an error.
func (x twin) maps(t *testing.T, what string, addr int, e api.Entry, fixed bool, err api.Errno) {
	t.Helper()
	var at int
	var went []api.Entry
	if err == api.OK {
		pages, ok := e.End-e.Start, true
		if at = addr; !fixed {
			at, ok = x.w.space(addr, pages)
		}
		if !ok {
			t.Fatalf("%s: there is no space", what)
		}
		went = x.w.list(at, at+pages)
		x.w.lay(put(e, at))
	}
	got, gone, is := x.m.Map(addr, e, fixed)
	if got != at || is != err {
		t.Fatalf("%s: Map(%d, %v, %v): %d, %v, want %d, %v", what, addr, e, fixed, got, is, at, err)
	}
	isList(t, what+": what went", gone, went...)
	x.has(t, what)
}

// unmaps asks Unmap for its answer.
func (x twin) unmaps(t *testing.T, what string, lo, pages int, err api.Errno) {
	t.Helper()
	var went []api.Entry
	if err == api.OK {
		went = x.w.list(lo, lo+pages)
		x.w.take(lo, pages)
	}
	gone, is := x.m.Unmap(lo, pages)
	if is != err {
		t.Fatalf("%s: Unmap(%d, %d): %v, want %v", what, lo, pages, is, err)
	}
	isList(t, what+": what went", gone, went...)
	x.has(t, what)
}

// changer is a call that changes the pages of a range, and what each of them has then.
type changer struct {
	name string
	call func(m *vmap.Map, lo, pages int) api.Errno
	set  func(e *api.Entry)
}

func protect(prot int) changer {
	return changer{"Protect", func(m *vmap.Map, lo, pages int) api.Errno { return m.Protect(lo, pages, prot) }, func(e *api.Entry) { e.Prot = prot }}
}

func inherit(how int) changer {
	return changer{"Inherit", func(m *vmap.Map, lo, pages int) api.Errno { return m.Inherit(lo, pages, how) }, func(e *api.Entry) { e.Inherit = how }}
}

func advise(how int) changer {
	return changer{"Advise", func(m *vmap.Map, lo, pages int) api.Errno { return m.Advise(lo, pages, how) }, func(e *api.Entry) { e.Advice = how }}
}

func wire(on bool) changer {
	return changer{"Wire", func(m *vmap.Map, lo, pages int) api.Errno { return m.Wire(lo, pages, on) }, func(e *api.Entry) { e.Wired = on }}
}

// changers has a call of each kind, that may be, and changes what bare, filed and full make.
func changers() []changer {
	return []changer{protect(api.Write), inherit(api.None), advise(api.DontNeed), wire(true), wire(false)}
}

// wrong has a call of each kind with what may not be.
func wrong() []changer {
	var list []changer
	for _, n := range append(far(), -1) {
		list = append(list, protect(n), inherit(n), advise(n))
	}
	return append(list, protect(8), protect(-8), protect(15), inherit(3), advise(5))
}

// changes asks a changer for its answer.
func (x twin) changes(t *testing.T, what string, c changer, lo, pages int, err api.Errno) {
	t.Helper()
	if err == api.OK {
		for page := lo; page < lo+pages; page++ {
			x.w[page] = with(x.w[page], c.set)
		}
	}
	if got := c.call(x.m, lo, pages); got != err {
		t.Fatalf("%s: %s of %d, %d: %v, want %v", what, c.name, lo, pages, got, err)
	}
	x.has(t, what+": "+c.name)
}

// pair is a range's arguments.
type pair struct{ lo, pages int }

// noRanges has ranges that may not be.
func noRanges() []pair {
	list := []pair{
		{-1, 1}, {-1, 2}, {-1, maxPages}, {0, 0}, {0, -1}, {5, 0}, {5, -1}, {-1, 0}, {-1, -1},
		{0, maxPages + 1}, {5, maxPages + 1}, {maxVPN - maxPages - 1, maxPages + 1}, {maxVPN - maxPages, maxPages + 1},
		{maxVPN, 1}, {maxVPN - 1, 2}, {maxVPN - maxPages + 1, maxPages}, {maxVPN, maxPages}, {maxVPN, 0}, {maxVPN + 1, 1}, {maxVPN + 1, -1},
		{0, maxVPN}, {maxPages, -maxPages}, {math.MaxInt, math.MinInt}, {math.MinInt, math.MaxInt},
	}
	for _, n := range far() {
		list = append(list, pair{n, 1}, pair{n, 2}, pair{n, maxPages}, pair{0, n}, pair{5, n}, pair{maxVPN - 1, n})
		for _, pages := range far() {
			list = append(list, pair{n, pages})
		}
	}
	return list
}

// ends is a map that has all pages that the ranges which may be reach, and ends at both ends.
func ends(t *testing.T) twin {
	t.Helper()
	return made(t, bare(maxPages), put(filed(4, 8), maxPages), put(bare(2), maxVPN-maxPages-2), put(full(maxPages, 0), maxVPN-maxPages))
}

// ranges has ranges that may be, of pages that ends has.
func ranges() []pair {
	return []pair{{0, 1}, {0, 2}, {0, maxPages}, {1, maxPages}, {4, maxPages}, {maxPages - 1, 1}, {maxPages - 1, 2}, {maxPages + 3, 1}, {maxVPN - 1, 1}, {maxVPN - 2, 1}, {maxVPN - maxPages, maxPages}, {maxVPN - maxPages - 2, maxPages}}
}

func TestNew(t *testing.T) { // P16.2
	x := made(t)
	for _, page := range append(far(), -1, 0, 1, maxVPN-1, maxVPN) {
		finds(t, "a new map", x.m, page, api.Entry{}, false)
	}
	x.maps(t, "one", 5, bare(3), true, api.OK)
	made(t).has(t, "another new map")
	x.has(t, "behind another new map")
}

func TestChaptersExample(t *testing.T) { // P16.2, P16.3, P16.5
	m := vmap.New()
	all := api.Entry{End: 3, Prot: 7, Max: 7}
	if at, gone, err := m.Map(5, all, true); at != 5 || len(gone) != 0 || err != api.OK {
		t.Fatalf("Map: %d, %v, %v", at, gone, err)
	}
	if err := m.Protect(6, 1, api.Read); err != api.OK {
		t.Fatalf("Protect of one page: %v", err)
	}
	read := api.Entry{End: 1, Prot: api.Read, Max: 7}
	isList(t, "three entries", m.Entries(), part(all, 5, 6), put(read, 6), part(all, 7, 8))
	if err := m.Protect(5, 3, api.Read); err != api.OK {
		t.Fatalf("Protect of all: %v", err)
	}
	isList(t, "one", m.Entries(), part(read, 5, 8))
}

func TestRangesThatMayNotBe(t *testing.T) { // P16.1, P16.2, P16.3
	x := ends(t)
	kept := x.m.Entries()
	for _, r := range noRanges() {
		if gone, err := x.m.Unmap(r.lo, r.pages); err != api.ErrInval || len(gone) != 0 {
			t.Fatalf("Unmap of %v: %v, %v", r, gone, err)
		}
		for _, c := range append(changers(), wrong()...) {
			if err := c.call(x.m, r.lo, r.pages); err != api.ErrInval {
				t.Fatalf("%s of %v: %v", c.name, r, err)
			}
		}
	}
	isList(t, "behind calls of ranges that may not be", x.m.Entries(), kept...)
	x.has(t, "behind calls of ranges that may not be")
}

func TestRangesThatMayBe(t *testing.T) { // P16.1, P16.2, P16.3
	for _, r := range ranges() {
		ends(t).unmaps(t, "a range at an end", r.lo, r.pages, api.OK)
		made(t).unmaps(t, "a range at an end, of nothing", r.lo, r.pages, api.OK)
		for _, c := range changers() {
			made(t).changes(t, "a range at an end, of nothing", c, r.lo, r.pages, api.ErrNoMem)
			x := ends(t)
			x.changes(t, "a range at an end", c, r.lo, r.pages, api.OK)
			x.changes(t, "the same once more", c, r.lo, r.pages, api.OK)
		}
	}
}

func TestMapOfSizes(t *testing.T) { // P16.2
	for _, c := range []struct {
		what       string
		start, end int
		err        api.Errno
	}{
		{"Start of -1", -1, 2, api.ErrInval},
		{"Start of -1, one page", -1, 0, api.ErrInval},
		{"Start of -1, no pages", -1, -1, api.ErrInval},
		{"Start least", math.MinInt, math.MinInt + 3, api.ErrInval},
		{"Start least, up to 3", math.MinInt, 3, api.ErrInval},
		{"Start least, End greatest", math.MinInt, math.MaxInt, api.ErrInval},
		{"Start of 0", 0, 3, api.OK},
		{"Start of 1", 1, 4, api.OK},
		{"Start of MaxVPN - 3", maxVPN - 3, maxVPN, api.OK},
		{"Start past MaxVPN", maxVPN + 1, maxVPN + 4, api.OK},
		{"Start near the greatest", math.MaxInt - 3, math.MaxInt, api.OK},
		{"Start greatest, End there", math.MaxInt, math.MaxInt, api.ErrInval},
		{"no pages", 0, 0, api.ErrInval},
		{"no pages, further on", 9, 9, api.ErrInval},
		{"-1 pages", 1, 0, api.ErrInval},
		{"-1 pages, below 0", 0, -1, api.ErrInval},
		{"one page", 0, 1, api.OK},
		{"one page, further on", 9, 10, api.OK},
		{"MaxPages", 0, maxPages, api.OK},
		{"MaxPages, further on", 9, 9 + maxPages, api.OK},
		{"one more than MaxPages", 0, maxPages + 1, api.ErrInval},
		{"one more than MaxPages, further on", 9, 10 + maxPages, api.ErrInval},
		{"MaxVPN pages", 0, maxVPN, api.ErrInval},
		{"as many as an int has", 0, math.MaxInt, api.ErrInval},
		{"End least", 0, math.MinInt, api.ErrInval},
		{"End least, Start of 1", 1, math.MinInt, api.ErrInval},
		{"Start greatest, End least, which wraps to 1", math.MaxInt, math.MinInt, api.ErrInval},
		{"Start greatest, End near the least, which wraps to 3", math.MaxInt, math.MinInt + 2, api.ErrInval},
		{"Start near the greatest, End least, which wraps to MaxPages", math.MaxInt - maxPages + 1, math.MinInt, api.ErrInval},
	} {
		for _, fixed := range []bool{true, false} {
			for _, e := range []api.Entry{bare(1), filed(1, 0), full(1, 0)} {
				e.Start, e.End = c.start, c.end
				made(t).maps(t, c.what, 20, e, fixed, c.err)
				made(t, put(full(9, 2), 17)).maps(t, c.what+", where there is one", 20, e, fixed, c.err)
			}
		}
	}
}

func TestMapOfEntriesThatWouldNotBeGood(t *testing.T) { // P16.2
	for _, c := range []struct {
		what   string
		err    api.Errno
		change func(*api.Entry)
	}{
		{"as it is", api.OK, func(e *api.Entry) {}},
		{"File of -1", api.ErrInval, func(e *api.Entry) { e.File = -1 }},
		{"File of -1, Off of 0", api.ErrInval, func(e *api.Entry) { e.File, e.Off = -1, 0 }},
		{"File least", api.ErrInval, func(e *api.Entry) { e.File = math.MinInt }},
		{"File of 0, Off of 0", api.OK, func(e *api.Entry) { e.File, e.Off = 0, 0 }},
		{"File of 0, Off of 1", api.ErrInval, func(e *api.Entry) { e.File, e.Off = 0, 1 }},
		{"File of 0, Off of -1", api.ErrInval, func(e *api.Entry) { e.File, e.Off = 0, -1 }},
		{"File of 1", api.OK, func(e *api.Entry) { e.File = 1 }},
		{"File of 1001", api.OK, func(e *api.Entry) { e.File = 1001 }},
		{"File greatest", api.OK, func(e *api.Entry) { e.File = math.MaxInt }},
		{"Off of -1", api.ErrInval, func(e *api.Entry) { e.Off = -1 }},
		{"Off least", api.ErrInval, func(e *api.Entry) { e.Off = math.MinInt }},
		{"Off of 0", api.OK, func(e *api.Entry) { e.Off = 0 }},
		{"Off up to MaxPages", api.OK, func(e *api.Entry) { e.Off = maxPages - 3 }},
		{"Off up to MaxPages + 1", api.ErrInval, func(e *api.Entry) { e.Off = maxPages - 2 }},
		{"Off greatest", api.ErrInval, func(e *api.Entry) { e.Off = math.MaxInt }},
		{"all of a file", api.OK, func(e *api.Entry) { e.End, e.Off = e.Start+maxPages, 0 }},
		{"all of a file, one page on", api.ErrInval, func(e *api.Entry) { e.End, e.Off = e.Start+maxPages, 1 }},
		{"Prot of -1", api.ErrInval, func(e *api.Entry) { e.Prot = -1 }},
		{"Prot least", api.ErrInval, func(e *api.Entry) { e.Prot = math.MinInt }},
		{"Prot of 0", api.OK, func(e *api.Entry) { e.Prot = 0 }},
		{"Prot of 7", api.OK, func(e *api.Entry) { e.Prot = 7 }},
		{"Prot of 8", api.ErrInval, func(e *api.Entry) { e.Prot = 8 }},
		{"Prot greatest", api.ErrInval, func(e *api.Entry) { e.Prot = math.MaxInt }},
		{"Prot beyond Max", api.ErrInval, func(e *api.Entry) { e.Prot, e.Max = api.Read|api.Write, api.Read|api.Exec }},
		{"Prot that is Max", api.OK, func(e *api.Entry) { e.Prot, e.Max = api.Write, api.Write }},
		{"no Prot, no Max", api.OK, func(e *api.Entry) { e.Prot, e.Max = 0, 0 }},
		{"Max of -1", api.ErrInval, func(e *api.Entry) { e.Max = -1 }},
		{"Max of 8, no Prot", api.ErrInval, func(e *api.Entry) { e.Prot, e.Max = 0, 8 }},
		{"Max of 15", api.ErrInval, func(e *api.Entry) { e.Max = 15 }},
		{"Inherit of -1", api.ErrInval, func(e *api.Entry) { e.Inherit = -1 }},
		{"Inherit of Copy", api.OK, func(e *api.Entry) { e.Inherit = api.Copy }},
		{"Inherit of None", api.OK, func(e *api.Entry) { e.Inherit = api.None }},
		{"Inherit of 3", api.ErrInval, func(e *api.Entry) { e.Inherit = 3 }},
		{"Inherit greatest", api.ErrInval, func(e *api.Entry) { e.Inherit = math.MaxInt }},
		{"Advice of -1", api.ErrInval, func(e *api.Entry) { e.Advice = -1 }},
		{"Advice of Normal", api.OK, func(e *api.Entry) { e.Advice = api.Normal }},
		{"Advice of DontNeed", api.OK, func(e *api.Entry) { e.Advice = api.DontNeed }},
		{"Advice of 5", api.ErrInval, func(e *api.Entry) { e.Advice = 5 }},
		{"Advice greatest", api.ErrInval, func(e *api.Entry) { e.Advice = math.MaxInt }},
		{"not Shared", api.OK, func(e *api.Entry) { e.Shared = false }},
		{"not Wired", api.OK, func(e *api.Entry) { e.Wired = false }},
	} {
		for _, start := range []int{0, 100, maxVPN - 3, math.MaxInt - maxPages - 1} { // e at 0 counts, wherever it says it stands
			for _, fixed := range []bool{true, false} {
				e := with(put(full(3, 5), start), c.change)
				made(t).maps(t, c.what, 20, e, fixed, c.err)
				made(t, put(full(9, 2), 17)).maps(t, c.what+", where there is one", 20, e, fixed, c.err)
			}
		}
	}
}

func TestMapFixedAtTheEnds(t *testing.T) { // P16.1, P16.2
	for _, pages := range []int{1, 2, 3, maxPages} {
		for _, e := range []api.Entry{bare(pages), filed(pages, 0), full(pages, 0), put(full(pages, 0), 77)} {
			for _, at := range []int{0, 1, 5, maxVPN - pages - 1, maxVPN - pages} {
				made(t).maps(t, "where it may be", at, e, true, api.OK)
				ends(t).maps(t, "where it may be, over others", at, e, true, api.OK)
			}
			for _, at := range append(far(), -1, -pages, -pages-1, maxVPN-pages+1, maxVPN-1+max(0, 2-pages), maxVPN, maxVPN+1) {
				made(t).maps(t, "where it may not be", at, e, true, api.ErrInval)
			}
		}
	}
	x := ends(t)
	for _, at := range append(far(), -1, maxVPN-2, maxVPN-1, maxVPN) {
		x.maps(t, "where it may not be, over others", at, bare(3), true, api.ErrInval)
	}
}

func TestMapFixedOverOthers(t *testing.T) { // P16.2
	one, two, three := put(bare(4), 2), put(filed(4, 4), 6), put(full(3, 0), 12)
	e := with(bare(1), func(e *api.Entry) { e.Prot = api.Write })
	for _, c := range []struct {
		what      string
		at, pages int
		gone      []api.Entry
		left      []api.Entry
	}{
		{"over nothing, ahead of all", 0, 1, nil, []api.Entry{put(e, 0), one, two, three}},
		{"over nothing, up to one", 0, 2, nil, []api.Entry{part(e, 0, 2), one, two, three}},
		{"over nothing, in a gap that it fills", 10, 2, nil, []api.Entry{one, two, part(e, 10, 12), three}},
		{"over nothing, behind all", 15, 2, nil, []api.Entry{one, two, three, part(e, 15, 17)}},
		{"over nothing, far behind all", 150, 2, nil, []api.Entry{one, two, three, part(e, 150, 152)}},
		{"over one", 2, 4, []api.Entry{one}, []api.Entry{part(e, 2, 6), two, three}},
		{"over one in the middle", 6, 4, []api.Entry{two}, []api.Entry{one, part(e, 6, 10), three}},
		{"over one, and a gap", 6, 6, []api.Entry{two}, []api.Entry{one, part(e, 6, 12), three}},
		{"over the beginning of one", 2, 1, []api.Entry{part(one, 2, 3)}, []api.Entry{put(e, 2), part(one, 3, 6), two, three}},
		{"over the end of one", 5, 1, []api.Entry{part(one, 5, 6)}, []api.Entry{part(one, 2, 5), put(e, 5), two, three}},
		{"over the middle of one", 3, 2, []api.Entry{part(one, 3, 5)}, []api.Entry{part(one, 2, 3), part(e, 3, 5), part(one, 5, 6), two, three}},
		{"over the middle of one of a file", 7, 2, []api.Entry{put(filed(2, 5), 7)}, []api.Entry{one, put(filed(1, 4), 6), part(e, 7, 9), put(filed(1, 7), 9), three}},
		{"over parts of two, side by side", 5, 2, []api.Entry{part(one, 5, 6), put(filed(1, 4), 6)}, []api.Entry{part(one, 2, 5), part(e, 5, 7), put(filed(3, 5), 7), three}},
		{"over parts of two, and the hole between them", 9, 4, []api.Entry{put(filed(1, 7), 9), put(full(1, 0), 12)}, []api.Entry{one, put(filed(3, 4), 6), part(e, 9, 13), put(full(2, 1), 13)}},
		{"over a part, one, a hole, and a part", 3, 11, []api.Entry{part(one, 3, 6), two, put(full(2, 0), 12)}, []api.Entry{part(one, 2, 3), part(e, 3, 14), put(full(1, 2), 14)}},
		{"over all", 2, 13, []api.Entry{one, two, three}, []api.Entry{part(e, 2, 15)}},
		{"over more than all", 0, 20, []api.Entry{one, two, three}, []api.Entry{part(e, 0, 20)}},
	} {
		x := made(t, one, two, three)
		at, gone, err := x.m.Map(c.at, part(e, 0, c.pages), true)
		if at != c.at || err != api.OK {
			t.Fatalf("%s: %d, %v", c.what, at, err)
		}
		isList(t, c.what+": what went", gone, c.gone...)
		isList(t, c.what+": what is left", x.m.Entries(), c.left...)
		made(t, one, two, three).maps(t, c.what, c.at, part(e, 0, c.pages), true, api.OK)
	}
}

func TestMapOverWhatIsAlike(t *testing.T) { // P16.2, P16.5: it goes, and stands there again
	x := made(t, put(filed(9, 4), 20))
	at, gone, err := x.m.Map(22, filed(3, 6), true)
	if at != 22 || err != api.OK {
		t.Fatalf("Map: %d, %v", at, err)
	}
	isList(t, "what went", gone, put(filed(3, 6), 22))
	isList(t, "what is left", x.m.Entries(), put(filed(9, 4), 20))
	x.maps(t, "the same, one page on", 23, filed(3, 6), true, api.OK)
	isList(t, "what is left", x.m.Entries(), put(filed(3, 4), 20), put(filed(3, 6), 23), put(filed(3, 10), 26))
}

func TestMapKeepsOff(t *testing.T) { // P16.2: Off is what stands at Start, wherever that is
	x := made(t)
	x.maps(t, "from 100 to 7", 7, put(filed(3, 5), 100), true, api.OK)
	isList(t, "from 100 to 7", x.m.Entries(), put(filed(3, 5), 7))
	x.maps(t, "from 100 to where there is space", 6, put(full(2, 9), 100), false, api.OK)
	isList(t, "from 100 to where there is space", x.m.Entries(), put(filed(3, 5), 7), put(full(2, 9), 10))
}

func TestMapWhereThereIsSpace(t *testing.T) { // P16.2
	for _, c := range []struct {
		what              string
		hint, pages, want int
	}{
		{"a hint of 0", 0, 1, 0},
		{"a hint of 0, all of a hole", 0, 2, 0},
		{"a hint of 0, more than a hole", 0, 3, 15},
		{"a hint of -1", -1, 2, 0},
		{"a hint far below 0", math.MinInt, 2, 0},
		{"a hint far below 0, more than a hole", math.MinInt, 3, 15},
		{"a hint within a hole", 1, 1, 1},
		{"a hint within a hole that is too small from there on", 1, 2, 10},
		{"a hint at the Start of an entry", 2, 1, 10},
		{"a hint within an entry", 4, 2, 10},
		{"a hint at the last page of an entry", 5, 2, 10},
		{"a hint where one ends and another begins", 6, 2, 10},
		{"a hint within an entry, more than a hole", 4, 3, 15},
		{"a hint at the End of an entry", 10, 2, 10},
		{"a hint behind the End of an entry", 11, 2, 15},
		{"a hint at the End of all", 15, 9, 15},
		{"a hint past all entries", 1000, 9, 1000},
		{"a hint past all entries, MaxPages", 1000, maxPages, 1000},
		{"a hint at the last page", maxVPN - 1, 1, maxVPN - 1},
		{"a hint at the last page, two pages", maxVPN - 1, 2, 0},
		{"a hint at the last page, three pages", maxVPN - 1, 3, 15},
		{"a hint where the last MaxPages are", maxVPN - maxPages, maxPages, maxVPN - maxPages},
		{"a hint one past that", maxVPN - maxPages + 1, maxPages, 15},
		{"a hint at MaxVPN", maxVPN, 1, 0},
		{"a hint past MaxVPN", maxVPN + 1, 1, 0},
		{"a hint far past MaxVPN", 1 << 32, 3, 15},
		{"a hint greatest", math.MaxInt, 1, 0},
	} {
		for _, e := range []api.Entry{bare(c.pages), filed(c.pages, 0), full(c.pages, 0), put(full(c.pages, 0), 77)} {
			l := []api.Entry{put(bare(4), 2), put(filed(4, 4), 6), put(full(3, 0), 12)}
			x := made(t, l...)
			at, gone, err := x.m.Map(c.hint, e, false)
			if at != c.want || len(gone) != 0 || err != api.OK {
				t.Fatalf("%s: %d, %v, %v, want %d", c.what, at, gone, err, c.want)
			}
			made(t, l...).maps(t, c.what, c.hint, e, false, api.OK)
		}
	}
}

// crowded is a map of which each page has an entry.
func crowded(t *testing.T) *vmap.Map {
	t.Helper()
	m := vmap.New()
	for k := range maxVPN / maxPages {
		at, gone, err := m.Map(0, bare(maxPages), false)
		if at != k*maxPages || len(gone) != 0 || err != api.OK {
			t.Fatalf("Map into a map of %d pages: %d, %v, %v", k*maxPages, at, gone, err)
		}
	}
	isList(t, "a crowded map", m.Entries(), bare(maxVPN))
	return m
}

func TestMapWithoutSpace(t *testing.T) { // P16.2
	m := crowded(t)
	refuses := func(what string, pages int, e ...api.Entry) {
		t.Helper()
		for _, hint := range append(far(), -1, 0, 5, maxVPN-1, maxVPN) {
			if at, gone, err := m.Map(hint, filed(pages, 0), false); at != 0 || len(gone) != 0 || err != api.ErrNoMem {
				t.Fatalf("%s: Map(%d): %d, %v, %v", what, hint, at, gone, err)
			}
			if at, gone, err := m.Map(hint, filed(pages, maxPages), false); at != 0 || len(gone) != 0 || err != api.ErrInval {
				t.Fatalf("%s: Map(%d) of an entry that may not be: %d, %v, %v", what, hint, at, gone, err)
			}
		}
		isList(t, what, m.Entries(), e...)
	}
	all := bare(maxVPN)
	refuses("no space at all", 1, all)
	if gone, err := m.Unmap(40, 2); err != api.OK || len(gone) != 1 || gone[0] != part(all, 40, 42) {
		t.Fatalf("Unmap of two pages: %v, %v", gone, err)
	}
	refuses("space of two pages", 3, part(all, 0, 40), part(all, 42, maxVPN))
	if at, _, err := m.Map(41, bare(2), false); at != 40 || err != api.OK {
		t.Fatalf("Map into a hole: %d, %v", at, err)
	}
	refuses("no space again", 1, all)
	if at, gone, err := m.Map(maxVPN-2, filed(2, 7), true); at != maxVPN-2 || err != api.OK || len(gone) != 1 || gone[0] != part(all, maxVPN-2, maxVPN) {
		t.Fatalf("Map, fixed: %d, %v, %v", at, gone, err)
	}
	refuses("no space, behind a Map that was fixed", 1, part(all, 0, maxVPN-2), put(filed(2, 7), maxVPN-2))
}

func TestEntriesOfMoreThanMaxPages(t *testing.T) { // P16.1, P16.3, P16.4: entries that were merged
	m := crowded(t)
	all := bare(maxVPN)
	finds(t, "a crowded map", m, maxVPN-1, all, true)
	isList(t, "its child", m.Fork().Entries(), all)
	lo := 3*maxPages + 5
	if err := m.Protect(lo, maxPages, api.Write); err != api.OK {
		t.Fatalf("Protect: %v", err)
	}
	isList(t, "in the middle", m.Entries(), part(all, 0, lo), with(part(all, lo, lo+maxPages), func(e *api.Entry) { e.Prot = api.Write }), part(all, lo+maxPages, maxVPN))
	if err := m.Protect(lo, maxPages, api.Read); err != api.OK {
		t.Fatalf("Protect: %v", err)
	}
	isList(t, "and back", m.Entries(), all)
	if err := m.Protect(lo, maxPages+1, api.Read); err != api.ErrInval {
		t.Fatalf("Protect of more than MaxPages: %v", err)
	}
	if _, err := m.Unmap(maxVPN-maxPages, maxPages); err != api.OK {
		t.Fatalf("Unmap: %v", err)
	}
	isList(t, "without its last pages", m.Entries(), part(all, 0, maxVPN-maxPages))
}

func TestMapBesideOneThatIsAlike(t *testing.T) { // P16.1, P16.2, P16.5
	for _, c := range []struct {
		what string
		l    []api.Entry
		at   int
		e    api.Entry
		want []api.Entry
	}{
		{"behind one", []api.Entry{put(bare(4), 2)}, 6, bare(3), []api.Entry{put(bare(7), 2)}},
		{"ahead of one", []api.Entry{put(bare(4), 2)}, 1, bare(1), []api.Entry{put(bare(5), 1)}},
		{"between two", []api.Entry{put(bare(4), 2), put(bare(2), 8)}, 6, bare(2), []api.Entry{put(bare(8), 2)}},
		{"between two, of which the first one is alike", []api.Entry{put(bare(4), 2), put(full(2, 0), 8)}, 6, bare(2), []api.Entry{put(bare(6), 2), put(full(2, 0), 8)}},
		{"between two, of which the last one is alike", []api.Entry{put(full(4, 0), 2), put(bare(2), 8)}, 6, bare(2), []api.Entry{put(full(4, 0), 2), put(bare(4), 6)}},
		{"one page apart, behind", []api.Entry{put(bare(4), 2)}, 7, bare(3), []api.Entry{put(bare(4), 2), put(bare(3), 7)}},
		{"one page apart, ahead", []api.Entry{put(bare(4), 2)}, 0, bare(1), []api.Entry{bare(1), put(bare(4), 2)}},
		{"Off goes on, behind", []api.Entry{put(filed(4, 10), 2)}, 6, filed(3, 14), []api.Entry{put(filed(7, 10), 2)}},
		{"Off goes on, ahead", []api.Entry{put(filed(4, 10), 2)}, 1, filed(1, 9), []api.Entry{put(filed(5, 9), 1)}},
		{"Off goes on, between two", []api.Entry{put(filed(4, 10), 2), put(filed(3, 16), 8)}, 6, filed(2, 14), []api.Entry{put(filed(9, 10), 2)}},
		{"Off does not go on, behind", []api.Entry{put(filed(4, 10), 2)}, 6, filed(3, 15), []api.Entry{put(filed(4, 10), 2), put(filed(3, 15), 6)}},
		{"Off stays the same", []api.Entry{put(filed(4, 10), 2)}, 6, filed(3, 10), []api.Entry{put(filed(4, 10), 2), put(filed(3, 10), 6)}},
		{"Off does not go on, ahead", []api.Entry{put(filed(4, 10), 2)}, 1, filed(1, 10), []api.Entry{put(filed(1, 10), 1), put(filed(4, 10), 2)}},
		{"no field is zero", []api.Entry{put(full(4, 10), 2)}, 6, full(3, 14), []api.Entry{put(full(7, 10), 2)}},
		{"over what parted two", []api.Entry{put(bare(4), 2), put(full(1, 0), 6), put(bare(4), 7)}, 6, bare(1), []api.Entry{put(bare(9), 2)}},
		{"all of a file", []api.Entry{put(filed(1, 0), 9), put(filed(1, maxPages-1), 8+maxPages)}, 10, filed(maxPages-2, 1), []api.Entry{put(filed(maxPages, 0), 9)}},
	} {
		x := made(t, c.l...)
		x.maps(t, c.what, c.at, c.e, true, api.OK)
		isList(t, c.what, x.m.Entries(), c.want...)
	}
	x := made(t, put(bare(4), 2))
	x.maps(t, "where there is space", 2, bare(3), false, api.OK)
	isList(t, "where there is space", x.m.Entries(), put(bare(7), 2))
}

func TestMapBesideOneThatDiffers(t *testing.T) { // P16.1, P16.2: in one field only
	for what, change := range map[string]func(*api.Entry){
		"File":    func(e *api.Entry) { e.File++ },
		"Off":     func(e *api.Entry) { e.Off++ },
		"Shared":  func(e *api.Entry) { e.Shared = !e.Shared },
		"Prot":    func(e *api.Entry) { e.Prot ^= api.Exec },
		"Max":     func(e *api.Entry) { e.Max ^= api.Write },
		"Inherit": func(e *api.Entry) { e.Inherit = api.None },
		"Advice":  func(e *api.Entry) { e.Advice = api.DontNeed },
		"Wired":   func(e *api.Entry) { e.Wired = !e.Wired },
	} {
		low, high := put(full(4, 6), 4), with(full(1, 10), change)
		x := made(t, low)
		x.maps(t, what, 8, high, true, api.OK)
		isList(t, what, x.m.Entries(), low, put(high, 8))
		x = made(t, put(high, 8))
		x.maps(t, what, 4, low, true, api.OK)
		isList(t, what, x.m.Entries(), low, put(high, 8))
	}
}

func TestUnmap(t *testing.T) { // P16.2
	one, two, three := put(bare(4), 2), put(filed(4, 4), 6), put(full(3, 0), 12)
	for _, c := range []struct {
		what      string
		lo, pages int
		gone      []api.Entry
		left      []api.Entry
	}{
		{"nothing, ahead of all", 0, 2, nil, []api.Entry{one, two, three}},
		{"nothing, in a hole", 10, 2, nil, []api.Entry{one, two, three}},
		{"nothing, behind all", 15, maxPages, nil, []api.Entry{one, two, three}},
		{"all", 2, 13, []api.Entry{one, two, three}, nil},
		{"more than all", 0, maxPages, []api.Entry{one, two, three}, nil},
		{"one", 6, 4, []api.Entry{two}, []api.Entry{one, three}},
		{"one, and holes", 10, 9, []api.Entry{three}, []api.Entry{one, two}},
		{"the first page of one", 2, 1, []api.Entry{part(one, 2, 3)}, []api.Entry{part(one, 3, 6), two, three}},
		{"the last page of one", 9, 1, []api.Entry{put(filed(1, 7), 9)}, []api.Entry{one, put(filed(3, 4), 6), three}},
		{"the middle of one", 3, 2, []api.Entry{part(one, 3, 5)}, []api.Entry{part(one, 2, 3), part(one, 5, 6), two, three}},
		{"the middle of one of a file", 13, 1, []api.Entry{put(full(1, 1), 13)}, []api.Entry{one, two, put(full(1, 0), 12), put(full(1, 2), 14)}},
		{"parts of two", 5, 3, []api.Entry{part(one, 5, 6), put(filed(2, 4), 6)}, []api.Entry{part(one, 2, 5), put(filed(2, 6), 8), three}},
		{"parts of two, and the hole between them", 8, 5, []api.Entry{put(filed(2, 6), 8), put(full(1, 0), 12)}, []api.Entry{one, put(filed(2, 4), 6), put(full(2, 1), 13)}},
		{"a hole, one, and a part", 0, 8, []api.Entry{one, put(filed(2, 4), 6)}, []api.Entry{put(filed(2, 6), 8), three}},
	} {
		x := made(t, one, two, three)
		gone, err := x.m.Unmap(c.lo, c.pages)
		if err != api.OK {
			t.Fatalf("%s: %v", c.what, err)
		}
		isList(t, c.what+": what went", gone, c.gone...)
		isList(t, c.what+": what is left", x.m.Entries(), c.left...)
		x = made(t, one, two, three)
		x.unmaps(t, c.what, c.lo, c.pages, api.OK)
		x.unmaps(t, c.what+", once more", c.lo, c.pages, api.OK)
		made(t).unmaps(t, c.what+", of an empty map", c.lo, c.pages, api.OK)
	}
}

func TestAt(t *testing.T) { // P16.2
	one, two, three := put(bare(4), 2), put(filed(4, 4), 6), put(full(3, 0), 12)
	x := made(t, one, two, three)
	for _, page := range append(far(), -1, 0, 1, 10, 11, 15, 16, maxVPN-1, maxVPN, maxVPN+1) {
		finds(t, "a page that has none", x.m, page, api.Entry{}, false)
	}
	for _, e := range []api.Entry{one, two, three} {
		for page := e.Start; page < e.End; page++ {
			finds(t, "a page that has one", x.m, page, e, true)
		}
	}
	x = made(t, bare(1), put(bare(1), maxVPN-1))
	finds(t, "page 0", x.m, 0, bare(1), true)
	finds(t, "the last page", x.m, maxVPN-1, put(bare(1), maxVPN-1), true)
	finds(t, "behind the last page", x.m, maxVPN, api.Entry{}, false)
	finds(t, "below page 0", x.m, -1, api.Entry{}, false)
}

func TestEntriesAreInOrder(t *testing.T) { // P16.2
	x := made(t)
	isList(t, "none", x.m.Entries())
	x.maps(t, "one", 50, bare(2), true, api.OK)
	isList(t, "one", x.m.Entries(), put(bare(2), 50))
	x.maps(t, "one ahead of it", 10, full(2, 9), true, api.OK)
	x.maps(t, "one behind them", 90, filed(2, 3), true, api.OK)
	x.maps(t, "one between them", 30, bare(2), true, api.OK)
	x.maps(t, "one ahead of all", 0, bare(1), true, api.OK)
	isList(t, "several", x.m.Entries(), bare(1), put(full(2, 9), 10), put(bare(2), 30), put(bare(2), 50), put(filed(2, 3), 90))
	x.unmaps(t, "all", 0, maxPages, api.OK)
	isList(t, "none again", x.m.Entries())
}

func TestWhatMayNotBeAsked(t *testing.T) { // P16.3, R2: ErrInval is ahead of ErrNoMem
	l := []api.Entry{put(bare(4), 2), put(with(filed(4, 4), func(e *api.Entry) { e.Max = api.Read }), 6)}
	for _, c := range wrong() {
		x := made(t, l...)
		x.changes(t, "all pages have an entry", c, 2, 8, api.ErrInval)
		x.changes(t, "a part of one", c, 3, 1, api.ErrInval)
		x.changes(t, "a hole", c, 0, 8, api.ErrInval)
		made(t).changes(t, "an empty map", c, 0, 1, api.ErrInval)
	}
}

func TestWhatMayBeAsked(t *testing.T) { // P16.3
	var list []changer
	for prot := range 8 {
		list = append(list, protect(prot))
	}
	for _, how := range []int{api.Copy, api.Share, api.None} {
		list = append(list, inherit(how))
	}
	for _, how := range []int{api.Normal, api.Random, api.Sequential, api.WillNeed, api.DontNeed} {
		list = append(list, advise(how))
	}
	list = append(list, wire(true), wire(false))
	for _, c := range list {
		for _, e := range []api.Entry{bare(9), filed(9, 4), full(9, 4)} {
			for lo := 10; lo < 19; lo++ {
				for hi := lo + 1; hi <= 19; hi++ {
					x := made(t, put(e, 10))
					x.changes(t, "a part of one", c, lo, hi-lo, api.OK)
					x.changes(t, "the same again", c, lo, hi-lo, api.OK)
					x.changes(t, "all of it", c, 10, 9, api.OK)
					isList(t, "one again", x.m.Entries(), with(put(e, 10), c.set))
				}
			}
		}
	}
}

func TestHoles(t *testing.T) { // P16.3
	l := []api.Entry{put(bare(4), 2), put(filed(4, 4), 6), put(full(3, 0), 12)}
	for _, c := range changers() {
		x := made(t, l...)
		x.changes(t, "a hole at the beginning", c, 1, 5, api.ErrNoMem)
		x.changes(t, "a hole at the beginning, from 0 on", c, 0, 10, api.ErrNoMem)
		x.changes(t, "a hole in the middle", c, 6, 9, api.ErrNoMem)
		x.changes(t, "a hole in the middle, parts", c, 9, 4, api.ErrNoMem)
		x.changes(t, "a hole at the end", c, 2, 9, api.ErrNoMem)
		x.changes(t, "a hole at the end, one page", c, 14, 2, api.ErrNoMem)
		x.changes(t, "a hole alone", c, 10, 2, api.ErrNoMem)
		x.changes(t, "a page of a hole", c, 11, 1, api.ErrNoMem)
		x.changes(t, "behind all", c, 15, 1, api.ErrNoMem)
		x.changes(t, "ahead of all", c, 0, 2, api.ErrNoMem)
		x.changes(t, "far behind all", c, 1000, maxPages, api.ErrNoMem)
		x.changes(t, "more than all", c, 0, maxPages, api.ErrNoMem)
		x.changes(t, "no hole", c, 2, 8, api.OK)
		x.changes(t, "no hole, parts", c, 4, 4, api.OK)
		x.changes(t, "no hole, one page", c, 14, 1, api.OK)
	}
	for _, c := range changers() {
		made(t).changes(t, "nothing", c, 0, 1, api.ErrNoMem)
	}
}

func TestProtectBeyondMax(t *testing.T) { // P16.3, R2: ErrNoMem is ahead of ErrAccess
	less := func(e *api.Entry) { e.Max = api.Read | api.Exec }
	for k := range 3 { // which one of three lacks a right
		l := []api.Entry{put(bare(4), 2), put(filed(4, 4), 6), put(full(3, 0), 10), put(bare(2), 20)}
		l[k] = with(l[k], less)
		for prot := range 8 {
			x := made(t, l...)
			err := api.OK
			if prot&api.Write != 0 {
				err = api.ErrAccess
			}
			x.changes(t, "a hole, too", protect(prot), 2, 12, api.ErrNoMem)
			x.changes(t, "a hole, too", protect(prot), 1, 12, api.ErrNoMem)
			x.changes(t, "several", protect(prot), 2, 11, err)
			x = made(t, l...)
			x.changes(t, "parts", protect(prot), 5, 6, err)
			x = made(t, l...)
			x.changes(t, "one", protect(prot), l[k].Start, l[k].End-l[k].Start, err)
			x = made(t, l...)
			x.changes(t, "one page", protect(prot), l[k].Start+1, 1, err)
			x = made(t, l...)
			x.changes(t, "another one", protect(prot), l[(k+1)%3].Start, l[(k+1)%3].End-l[(k+1)%3].Start, api.OK)
		}
	}
	none := put(with(bare(4), func(e *api.Entry) { e.Prot, e.Max = 0, 0 }), 2)
	for prot := range 8 {
		err := api.ErrAccess
		if prot == 0 {
			err = api.OK
		}
		made(t, none).changes(t, "no rights", protect(prot), 3, 1, err)
	}
}

func TestProtectOfAllProtsAndMaxes(t *testing.T) { // P16.3: prot is within Max, whatever Prot was
	for most := range 8 {
		for was := range 8 {
			for prot := range 8 {
				if was|most != most {
					continue
				}
				err := api.OK
				if prot|most != most {
					err = api.ErrAccess
				}
				e := with(bare(3), func(e *api.Entry) { e.Prot, e.Max = was, most })
				made(t, put(e, 5)).changes(t, "each Prot, each Max", protect(prot), 6, 1, err)
			}
		}
	}
}

func TestAPartAndBack(t *testing.T) { // P16.1, P16.3, P16.5
	for _, c := range []struct{ to, back changer }{
		{protect(0), protect(api.Read | api.Exec)},
		{inherit(api.None), inherit(api.Share)},
		{advise(api.Normal), advise(api.WillNeed)},
		{wire(false), wire(true)},
	} {
		e := put(full(9, 30), 10)
		x := made(t, e)
		x.changes(t, "a part", c.to, 13, 2, api.OK)
		isList(t, "three", x.m.Entries(), part(e, 10, 13), with(part(e, 13, 15), c.to.set), part(e, 15, 19))
		x.changes(t, "a part of that", c.back, 14, 1, api.OK)
		isList(t, "three", x.m.Entries(), part(e, 10, 13), with(part(e, 13, 14), c.to.set), part(e, 14, 19))
		x.changes(t, "and back", c.back, 13, 1, api.OK)
		isList(t, "one", x.m.Entries(), e)
		x.changes(t, "the beginning", c.to, 10, 2, api.OK)
		isList(t, "two", x.m.Entries(), with(part(e, 10, 12), c.to.set), part(e, 12, 19))
		x.changes(t, "the end", c.to, 17, 2, api.OK)
		isList(t, "three", x.m.Entries(), with(part(e, 10, 12), c.to.set), part(e, 12, 17), with(part(e, 17, 19), c.to.set))
		x.changes(t, "the middle", c.to, 12, 5, api.OK)
		isList(t, "one", x.m.Entries(), with(e, c.to.set))
	}
}

func TestOneFieldChanges(t *testing.T) { // P16.3: and of several entries each keeps what it has else
	l := []api.Entry{put(bare(4), 2), put(filed(4, 4), 6), put(full(3, 0), 10)}
	x := made(t, l...)
	for _, step := range []struct {
		err api.Errno
		set func(*api.Entry)
	}{
		{x.m.Protect(2, 11, api.Write), func(e *api.Entry) { e.Prot = api.Write }},
		{x.m.Inherit(2, 11, api.None), func(e *api.Entry) { e.Inherit = api.None }},
		{x.m.Advise(2, 11, api.DontNeed), func(e *api.Entry) { e.Advice = api.DontNeed }},
		{x.m.Wire(2, 11, true), func(e *api.Entry) { e.Wired = true }},
	} {
		if step.err != api.OK {
			t.Fatalf("of all: %v", step.err)
		}
		for k := range l {
			step.set(&l[k])
		}
	}
	isList(t, "all four", x.m.Entries(), l...)
}

func TestWireTwice(t *testing.T) { // P16.3: it is on or off, and not counted
	e := put(bare(9), 10)
	x := made(t, e)
	wired := func(e *api.Entry) { e.Wired = true }
	x.changes(t, "on", wire(true), 11, 3, api.OK)
	x.changes(t, "on again", wire(true), 11, 3, api.OK)
	isList(t, "on twice", x.m.Entries(), part(e, 10, 11), with(part(e, 11, 14), wired), part(e, 14, 19))
	x.changes(t, "off", wire(false), 11, 3, api.OK)
	isList(t, "off", x.m.Entries(), e)
	x.changes(t, "off again", wire(false), 11, 3, api.OK)
	isList(t, "off twice", x.m.Entries(), e)
}

// forked is a child of a twin.
func (x twin) forked(t *testing.T, what string) twin {
	t.Helper()
	child := twin{x.m.Fork(), world{}}
	for page, e := range x.w {
		if e.Inherit != api.None {
			child.w[page] = with(e, func(e *api.Entry) { e.Wired = false })
		}
	}
	child.has(t, what+": the child")
	x.has(t, what+": the parent")
	return child
}

func TestFork(t *testing.T) { // P16.4
	as := func(how int) func(*api.Entry) { return func(e *api.Entry) { e.Inherit = how } }
	copied, shared, none := put(full(4, 0), 2), put(filed(4, 4), 6), put(bare(3), 10)
	copied, shared, none = with(copied, as(api.Copy)), with(shared, as(api.Share)), with(none, as(api.None))
	loose := with(copied, func(e *api.Entry) { e.Wired = false })
	x := made(t, copied, shared, none)
	child := x.forked(t, "each Inherit")
	isList(t, "each Inherit", child.m.Entries(), loose, shared)
	isList(t, "the parent", x.m.Entries(), copied, shared, none)
	isList(t, "a child of a child", child.forked(t, "a child of a child").m.Entries(), loose, shared)
	isList(t, "none that is inherited", made(t, none).forked(t, "none").m.Entries())
	isList(t, "an empty map", made(t).forked(t, "an empty map").m.Entries())
	made(t).forked(t, "an empty map").maps(t, "an empty child", 3, bare(2), true, api.OK)
}

func TestForkMerges(t *testing.T) { // P16.1, P16.4: two that differ in Wired alone
	e := put(filed(9, 4), 10)
	x := made(t, e)
	x.changes(t, "a part", wire(true), 12, 3, api.OK)
	isList(t, "the child", x.forked(t, "wired in the middle").m.Entries(), e)
	if l := x.m.Entries(); len(l) != 3 || !l[1].Wired {
		t.Fatalf("the parent: %v", l)
	}
	x.changes(t, "a part that is not inherited", inherit(api.None), 13, 1, api.OK)
	isList(t, "the child", x.forked(t, "a part that is not inherited").m.Entries(), part(e, 10, 13), part(e, 14, 19))
}

func TestForkIsApart(t *testing.T) { // P16.4
	x := made(t, put(bare(4), 2), put(filed(4, 4), 6), put(full(3, 0), 12))
	child := x.forked(t, "a child")
	grandchild := child.forked(t, "a child of a child")
	all := func(what string) {
		t.Helper()
		x.has(t, what+": the parent")
		child.has(t, what+": the child")
		grandchild.has(t, what+": the child's child")
	}
	for k, y := range []twin{x, child, grandchild} {
		y.maps(t, "fixed", 3+k, filed(2, 9), true, api.OK)
		all("Map, fixed")
		y.maps(t, "where there is space", 0, full(2, 9), false, api.OK)
		all("Map, where there is space")
		y.unmaps(t, "a part", 7+k, 1, api.OK)
		all("Unmap")
		for _, c := range changers() {
			y.changes(t, "one page", c, 12+k, 1, api.OK)
			all(c.name)
		}
	}
	x.unmaps(t, "all", 0, maxPages, api.OK)
	all("Unmap of all")
}

// kinds has entries of one page, at which an Off goes on from page to page, or does not.
func kinds(page int) []api.Entry {
	return []api.Entry{put(bare(1), page), put(filed(1, page+3), page), put(full(1, 2*page), page)}
}

// small has all lists of four pages, each of which has no entry or one of kinds.
func small() [][]api.Entry {
	lists := [][]api.Entry{nil}
	for page := range 4 {
		for _, l := range lists {
			for _, e := range kinds(page) {
				lists = append(lists, append(slices.Clone(l), e))
			}
		}
	}
	return lists
}

// calls has all that is done with a range, as a step of a twin.
func calls() []func(t *testing.T, x twin, lo, pages int) {
	var list []func(t *testing.T, x twin, lo, pages int)
	for _, e := range []api.Entry{bare(1), filed(1, 3), filed(1, 5), full(1, 0)} {
		list = append(list, func(t *testing.T, x twin, lo, pages int) {
			x.maps(t, "fixed", lo, part(e, 0, pages), true, api.OK)
		}, func(t *testing.T, x twin, lo, pages int) {
			x.maps(t, "where there is space", lo, part(e, 0, pages), false, api.OK)
		})
	}
	list = append(list, func(t *testing.T, x twin, lo, pages int) { x.unmaps(t, "a range", lo, pages, api.OK) })
	for _, c := range append(changers(), protect(api.Read)) {
		list = append(list, func(t *testing.T, x twin, lo, pages int) {
			err := api.OK
			for page := range pages {
				if _, ok := x.w[lo+page]; !ok {
					err = api.ErrNoMem
				}
			}
			x.changes(t, "a range", c, lo, pages, err)
		})
	}
	return append(list, func(t *testing.T, x twin, _, _ int) { x.forked(t, "a child") })
}

func TestAllOfFourPages(t *testing.T) { // P16.1, P16.2, P16.3, P16.4, P16.5
	for _, l := range small() {
		for _, call := range calls() {
			for lo := range 4 {
				for pages := 1; pages <= 5-lo; pages++ {
					call(t, made(t, l...), lo, pages)
				}
			}
		}
	}
}

// dice are numbers in a row that is always the same.
type dice uint64

func (d *dice) below(n int) int {
	*d = *d*6364136223846793005 + 1442695040888963407
	return int(uint64(*d) >> 33 % uint64(n))
}

// step does one thing to a map, of pages below 60 mostly.
func step(t *testing.T, d *dice, x twin) twin {
	t.Helper()
	const most = 90 // so that there is always something to change, and some space
	lo, pages := d.below(60), 1+d.below(12)
	if d.below(3) == 0 {
		pages = 1 + d.below(3)
	}
	if len(x.w) > most {
		x.unmaps(t, "in a long run, what lies far", 60, maxPages, api.OK)
	}
	e := []api.Entry{bare(pages), filed(pages, lo), filed(pages, d.below(9)), full(pages, lo)}[d.below(4)]
	if d.below(4) == 0 {
		e.Max = api.Read | api.Exec
	}
	err := api.OK
	for page := lo; page < lo+pages; page++ {
		if _, ok := x.w[page]; !ok {
			err = api.ErrNoMem
		}
	}
	prot := d.below(8)
	access := err
	for page := lo; page < lo+pages && access == api.OK; page++ {
		if prot|x.w[page].Max != x.w[page].Max {
			access = api.ErrAccess
		}
	}
	switch d.below(12) {
	case 0, 1:
		x.maps(t, "in a long run, fixed", lo, e, true, api.OK)
	case 2, 3:
		x.maps(t, "in a long run, where there is space", lo-5, e, false, api.OK)
	case 4, 5:
		x.unmaps(t, "in a long run", lo, pages, api.OK)
	case 6, 7:
		x.changes(t, "in a long run", protect(prot), lo, pages, access)
	case 8:
		x.changes(t, "in a long run", inherit(max(0, d.below(4)-1)), lo, pages, err)
	case 9:
		x.changes(t, "in a long run", advise(d.below(5)), lo, pages, err)
	case 10:
		x.changes(t, "in a long run", wire(d.below(2) == 0), lo, pages, err)
	default:
		if child := x.forked(t, "in a long run"); d.below(2) == 0 {
			return child
		}
	}
	return x
}

func TestAgainstAModel(t *testing.T) { // P16.1, P16.2, P16.3, P16.4, P16.5
	for seed := range 4 {
		d := dice(seed + 1)
		x := made(t)
		for range 5000 {
			x = step(t, &d, x)
		}
	}
}

func TestManyEntries(t *testing.T) { // P16.2, P16.3: none of which could be one with the next
	m := vmap.New()
	const many = 5000
	for k := range many {
		if at, _, err := m.Map(0, filed(1, k%2*7), false); at != k || err != api.OK {
			t.Fatalf("Map: %d, %v, want %d", at, err, k)
		}
	}
	if n := len(m.Entries()); n != many {
		t.Fatalf("%d entries", n)
	}
	for k := range many {
		finds(t, "of many", m, k, put(filed(1, k%2*7), k), true)
	}
	if err := m.Protect(0, maxPages, api.Write); err != api.OK {
		t.Fatalf("Protect: %v", err)
	}
	for k, e := range m.Entries() {
		if want := k < maxPages; (e.Prot == api.Write) != want || e.Start != k || e.Off != k%2*7 {
			t.Fatalf("entry %d: %v", k, e)
		}
	}
	gone, err := m.Unmap(10, maxPages)
	if err != api.OK || len(gone) != maxPages || len(m.Entries()) != many-maxPages {
		t.Fatalf("Unmap: %d gone, %v", len(gone), err)
	}
}

// scribble writes over a list, and over the room behind its end.
func scribble(l []api.Entry) {
	l = l[:cap(l)]
	for k := range l {
		l[k] = put(full(5, k), k+100)
	}
}

func TestListsAreNewMemory(t *testing.T) { // R3
	l := []api.Entry{put(bare(4), 2), put(filed(4, 4), 6), put(full(3, 0), 12), put(bare(1), 20), put(filed(2, 0), 30)}
	for what, call := range map[string]func(x twin) []api.Entry{
		"Entries": func(x twin) []api.Entry { return x.m.Entries() },
		"Unmap of all": func(x twin) []api.Entry {
			gone, _ := x.m.Unmap(0, 100)
			x.w.take(0, 100)
			return gone
		},
		"Unmap of parts": func(x twin) []api.Entry {
			gone, _ := x.m.Unmap(4, 9)
			x.w.take(4, 9)
			return gone
		},
		"Unmap of nothing": func(x twin) []api.Entry {
			gone, _ := x.m.Unmap(10, 2)
			return gone
		},
		"Map": func(x twin) []api.Entry {
			_, gone, _ := x.m.Map(4, filed(9, 2), true)
			x.w.lay(put(filed(9, 2), 4))
			return gone
		},
		"Map over nothing": func(x twin) []api.Entry {
			_, gone, _ := x.m.Map(0, filed(9, 2), false)
			x.w.lay(put(filed(9, 2), 21))
			return gone
		},
	} {
		x := made(t, l...)
		answer := call(x)
		if slices.ContainsFunc(answer[len(answer):cap(answer)], func(e api.Entry) bool { return e != api.Entry{} }) {
			t.Errorf("%s: spare room: %v", what, answer[:cap(answer)])
		}
		kept := slices.Clone(answer)
		x.maps(t, what, 3, full(20, 50), true, api.OK)
		x.maps(t, what, 0, bare(2), false, api.OK)
		x.changes(t, what, protect(api.Write), 5, 6, api.OK)
		x.unmaps(t, what, 7, 3, api.OK)
		isList(t, what+": the answer, behind other calls", answer, kept...)
		child := x.forked(t, what)
		scribble(answer)
		x.has(t, what+": behind a change of the answer")
		child.has(t, what+": the child, behind a change of the answer")
		x.maps(t, what, 1, filed(3, 3), true, api.OK)
		isList(t, what+": what is asked once more", x.m.Entries(), x.w.list(0, maxVPN)...)
	}
}

func TestTwoListsOfOneMapShareNothing(t *testing.T) { // R3
	x := made(t, put(bare(4), 2), put(filed(4, 4), 6), put(full(3, 0), 12))
	a, b := x.m.Entries(), x.m.Entries()
	kept := slices.Clone(b)
	scribble(a)
	isList(t, "the other list", b, kept...)
	child := x.m.Fork()
	c := child.Entries()
	scribble(c)
	x.has(t, "the parent")
	isList(t, "the child", child.Entries(), put(bare(4), 2), put(filed(4, 4), 6), with(put(full(3, 0), 12), func(e *api.Entry) { e.Wired = false }))
}

func TestCallsThatTellChangeNothing(t *testing.T) { // R4
	x := made(t, put(bare(4), 2), put(filed(4, 4), 6), put(full(3, 0), 12))
	for range 3 {
		for _, page := range append(far(), -1, 0, 2, 5, 6, 11, 14, maxVPN) {
			x.m.At(page)
		}
		x.m.Fork()
		x.has(t, "behind At, Entries and Fork")
	}
}

func TestMapThatNoCallMade(t *testing.T) { // R5
	for name, m := range map[string]*vmap.Map{"nil": nil, "a zero value": {}} {
		for range 2 {
			for _, r := range append(noRanges(), ranges()...) {
				if gone, err := m.Unmap(r.lo, r.pages); len(gone) != 0 || err != api.ErrMade {
					t.Fatalf("%s: Unmap of %v: %v, %v", name, r, gone, err)
				}
				for _, c := range append(changers(), wrong()...) {
					if err := c.call(m, r.lo, r.pages); err != api.ErrMade {
						t.Fatalf("%s: %s of %v: %v", name, c.name, r, err)
					}
				}
			}
			for _, addr := range append(far(), -1, 0, 5, maxVPN-1, maxVPN) {
				for _, e := range []api.Entry{{}, bare(3), full(3, 0), bare(maxPages + 1), {Start: math.MaxInt, End: math.MinInt}, {Start: -1, End: 4, Off: -1}} {
					for _, fixed := range []bool{true, false} {
						if at, gone, err := m.Map(addr, e, fixed); at != 0 || len(gone) != 0 || err != api.ErrMade {
							t.Fatalf("%s: Map(%d, %v, %v): %d, %v, %v", name, addr, e, fixed, at, gone, err)
						}
					}
				}
				finds(t, name, m, addr, api.Entry{}, false)
			}
			isList(t, name, m.Entries())
			if m.Fork() != nil {
				t.Fatalf("%s: Fork is a map", name)
			}
		}
	}
}
