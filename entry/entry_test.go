package entry_test

import (
	"fmt"
	"math"
	"slices"
	"testing"

	"pantry/api"
	"pantry/entry"
)

const (
	maxVPN   = 1 << 26
	maxPages = 4096
)

// far has numbers that are nowhere near any page.
func far() []int {
	return []int{-2, -maxVPN, maxVPN + 2, 2 * maxVPN, 1 << 31, 1 << 32, 1<<32 + 1, -1 << 32, 1 - 1<<32, 1 << 62, -1 << 62, math.MinInt, math.MinInt + 1, math.MaxInt, math.MaxInt - 1}
}

// plain is an entry of no file.
func plain(start, end int) api.Entry {
	return api.Entry{Start: start, End: end, Prot: api.Read, Max: api.Read | api.Write}
}

// filed is an entry of file 3.
func filed(start, end, off int) api.Entry {
	e := plain(start, end)
	e.File, e.Off = 3, off
	return e
}

// full is an entry of which no field is zero.
func full(start, end, off int) api.Entry {
	return api.Entry{Start: start, End: end, File: 7, Off: off, Shared: true, Prot: api.Read | api.Exec, Max: 7, Inherit: api.Share, Advice: api.WillNeed, Wired: true}
}

// with is an entry that something was done to.
func with(e api.Entry, change func(*api.Entry)) api.Entry {
	change(&e)
	return e
}

// few has right lists of every kind that the tests ask all pages of.
func few() [][]api.Entry {
	return [][]api.Entry{
		nil,
		{},
		{plain(0, 1)},
		{plain(2, 6)},
		{plain(0, 3), plain(3, 5)},
		{plain(1, 3), plain(4, 5), filed(7, 8, 0), filed(8, 12, 1)},
		{filed(0, 2, 9), full(3, 6, 4), plain(6, 7), plain(10, 14)},
		{plain(0, 1), plain(1, 2), plain(2, 3), plain(3, 4), plain(5, 6), plain(6, 7), plain(8, 9)},
	}
}

// small has all right lists of five pages, each of which has no entry, one of no file, one of a file whose Off goes on
// from entry to entry, or one whose Off does not.
func small() [][]api.Entry {
	const pages = 5
	var lists [][]api.Entry
	for code := range 1 << (2*pages + pages - 1) {
		var l []api.Entry
		kind := 0
		for page := range pages {
			was := kind
			kind = code >> (2 * page) & 3
			parted := page == 0 || code>>(2*pages+page-1)&1 == 1
			switch {
			case kind == 0:
			case kind == was && !parted:
				l[len(l)-1].End++
			default:
				l = append(l, []api.Entry{plain(page, page+1), filed(page, page+1, page+3), full(page, page+1, 2*page)}[kind-1])
			}
		}
		lists = append(lists, l)
	}
	return lists
}

// at is what a page has, as an entry of that page alone.
func at(l []api.Entry, page int) (api.Entry, bool) {
	for _, e := range l {
		if e.Start <= page && page < e.End {
			if e.File > 0 {
				e.Off += page - e.Start
			}
			e.Start, e.End = page, page+1
			return e, true
		}
	}
	return api.Entry{}, false
}

// alike asks whether each page of two lists has the same.
func alike(t *testing.T, what string, a, b []api.Entry, pages int) {
	t.Helper()
	for page := range pages {
		x, ok := at(a, page)
		y, also := at(b, page)
		if x != y || ok != also {
			t.Fatalf("%s: page %d: %v, %v, want %v, %v\n%v\n%v", what, page, x, ok, y, also, a, b)
		}
	}
}

// isList asks whether a list is as it is to be.
func isList(t *testing.T, what string, got []api.Entry, want ...api.Entry) {
	t.Helper()
	if !slices.Equal(got, want) {
		t.Fatalf("%s:\n%v, want\n%v", what, got, want)
	}
}

func TestGood(t *testing.T) { // P15.1
	for _, c := range []struct {
		what   string
		want   bool
		change func(*api.Entry)
	}{
		{"as it is", true, func(e *api.Entry) {}},
		{"Start of -1", false, func(e *api.Entry) { e.Start = -1 }},
		{"Start of 0", true, func(e *api.Entry) { e.Start = 0 }},
		{"End at Start", false, func(e *api.Entry) { e.End = e.Start }},
		{"End below Start", false, func(e *api.Entry) { e.End = e.Start - 1 }},
		{"End one above Start", true, func(e *api.Entry) { e.End = e.Start + 1 }},
		{"no pages at 0", false, func(e *api.Entry) { e.Start, e.End = 0, 0 }},
		{"End at MaxVPN", true, func(e *api.Entry) { e.Start, e.End = maxVPN-2, maxVPN }},
		{"End at MaxVPN + 1", false, func(e *api.Entry) { e.Start, e.End = maxVPN-2, maxVPN+1 }},
		{"Start at MaxVPN", false, func(e *api.Entry) { e.Start, e.End = maxVPN, maxVPN+1 }},
		{"Start least, End greatest", false, func(e *api.Entry) { e.Start, e.End = math.MinInt, math.MaxInt }},
		{"Start least", false, func(e *api.Entry) { e.Start = math.MinInt }},
		{"End greatest", false, func(e *api.Entry) { e.End = math.MaxInt }},
		{"Start greatest, End least", false, func(e *api.Entry) { e.Start, e.End = math.MaxInt, math.MinInt }},

		{"File of -1", false, func(e *api.Entry) { e.File = -1 }},
		{"File of -1, Off of 0", false, func(e *api.Entry) { e.File, e.Off = -1, 0 }},
		{"File least", false, func(e *api.Entry) { e.File, e.Off = math.MinInt, 0 }},
		{"File of 0, Off of 0", true, func(e *api.Entry) { e.File, e.Off = 0, 0 }},
		{"File of 0, Off of 1", false, func(e *api.Entry) { e.File, e.Off = 0, 1 }},
		{"File of 0, Off of -1", false, func(e *api.Entry) { e.File, e.Off = 0, -1 }},
		{"File of 1", true, func(e *api.Entry) { e.File = 1 }},
		{"File of 1001", true, func(e *api.Entry) { e.File = 1001 }},
		{"File greatest", true, func(e *api.Entry) { e.File = math.MaxInt }},
		{"Off of -1", false, func(e *api.Entry) { e.Off = -1 }},
		{"Off of 0", true, func(e *api.Entry) { e.Off = 0 }},
		{"Off of 1", true, func(e *api.Entry) { e.Off = 1 }},
		{"Off up to MaxPages", true, func(e *api.Entry) { e.Start, e.End, e.Off = 10, 15, maxPages-5 }},
		{"Off up to MaxPages + 1", false, func(e *api.Entry) { e.Start, e.End, e.Off = 10, 15, maxPages-4 }},
		{"the last page of a file", true, func(e *api.Entry) { e.Start, e.End, e.Off = 10, 11, maxPages-1 }},
		{"the page behind it", false, func(e *api.Entry) { e.Start, e.End, e.Off = 10, 11, maxPages }},
		{"all of a file", true, func(e *api.Entry) { e.Start, e.End, e.Off = 10, 10+maxPages, 0 }},
		{"one more than all of a file", false, func(e *api.Entry) { e.Start, e.End, e.Off = 10, 11+maxPages, 0 }},
		{"all of a file, one page on", false, func(e *api.Entry) { e.Start, e.End, e.Off = 10, 10+maxPages, 1 }},
		{"Off greatest", false, func(e *api.Entry) { e.Off = math.MaxInt }},
		{"Off so great that a sum runs over", false, func(e *api.Entry) { e.Start, e.End, e.Off = 0, maxVPN, math.MaxInt-maxVPN+1 }},
		{"Off least", false, func(e *api.Entry) { e.Off = math.MinInt }},
		{"Start counts for Off", true, func(e *api.Entry) { e.Start, e.End, e.Off = maxVPN-maxPages, maxVPN, 0 }},
		{"as many pages as may be, of no file", true, func(e *api.Entry) { e.Start, e.End, e.File, e.Off = 0, maxVPN, 0, 0 }},
		{"as many pages as may be, of a file", false, func(e *api.Entry) { e.Start, e.End, e.Off = 0, maxVPN, 0 }},

		{"Prot of -1", false, func(e *api.Entry) { e.Prot = -1 }},
		{"Prot of -8", false, func(e *api.Entry) { e.Prot = -8 }},
		{"Prot least", false, func(e *api.Entry) { e.Prot = math.MinInt }},
		{"Prot of 0", true, func(e *api.Entry) { e.Prot = 0 }},
		{"Prot of 7", true, func(e *api.Entry) { e.Prot = 7 }},
		{"Prot of 8", false, func(e *api.Entry) { e.Prot = 8 }},
		{"Prot greatest", false, func(e *api.Entry) { e.Prot = math.MaxInt }},
		{"Max of -1", false, func(e *api.Entry) { e.Max = -1 }},
		{"Max of -1 without Prot", false, func(e *api.Entry) { e.Prot, e.Max = 0, -1 }},
		{"Prot and Max of -1", false, func(e *api.Entry) { e.Prot, e.Max = -1, -1 }},
		{"Max of 0", false, func(e *api.Entry) { e.Max = 0 }},
		{"Max of 0 without Prot", true, func(e *api.Entry) { e.Prot, e.Max = 0, 0 }},
		{"Max of 8", false, func(e *api.Entry) { e.Prot, e.Max = 0, 8 }},
		{"Prot and Max of 8", false, func(e *api.Entry) { e.Prot, e.Max = 8, 8 }},
		{"Max of 15", false, func(e *api.Entry) { e.Max = 15 }},
		{"Prot and Max of 7", true, func(e *api.Entry) { e.Prot, e.Max = 7, 7 }},

		{"Inherit of -1", false, func(e *api.Entry) { e.Inherit = -1 }},
		{"Inherit of Copy", true, func(e *api.Entry) { e.Inherit = api.Copy }},
		{"Inherit of Share", true, func(e *api.Entry) { e.Inherit = api.Share }},
		{"Inherit of None", true, func(e *api.Entry) { e.Inherit = api.None }},
		{"Inherit of 3", false, func(e *api.Entry) { e.Inherit = 3 }},
		{"Inherit least", false, func(e *api.Entry) { e.Inherit = math.MinInt }},
		{"Inherit greatest", false, func(e *api.Entry) { e.Inherit = math.MaxInt }},
		{"Advice of -1", false, func(e *api.Entry) { e.Advice = -1 }},
		{"Advice of Normal", true, func(e *api.Entry) { e.Advice = api.Normal }},
		{"Advice of Random", true, func(e *api.Entry) { e.Advice = api.Random }},
		{"Advice of Sequential", true, func(e *api.Entry) { e.Advice = api.Sequential }},
		{"Advice of WillNeed", true, func(e *api.Entry) { e.Advice = api.WillNeed }},
		{"Advice of DontNeed", true, func(e *api.Entry) { e.Advice = api.DontNeed }},
		{"Advice of 5", false, func(e *api.Entry) { e.Advice = 5 }},
		{"Advice least", false, func(e *api.Entry) { e.Advice = math.MinInt }},
		{"Advice greatest", false, func(e *api.Entry) { e.Advice = math.MaxInt }},

		{"not Shared", true, func(e *api.Entry) { e.Shared = false }},
		{"not Wired", true, func(e *api.Entry) { e.Wired = false }},
		{"Shared, of no file", true, func(e *api.Entry) { e.File, e.Off = 0, 0 }},
		{"all fields zero", false, func(e *api.Entry) { *e = api.Entry{} }},
		{"one page, else zero", true, func(e *api.Entry) { *e = api.Entry{End: 1} }},
	} {
		e := with(full(4, 9, 5), c.change)
		if got := entry.Good(e); got != c.want {
			t.Errorf("%s: Good(%v): %v", c.what, e, got)
		}
		if got := entry.Right([]api.Entry{e}); got != c.want {
			t.Errorf("%s: Right of %v: %v", c.what, e, got)
		}
	}
}

func TestGoodOfProtAndMax(t *testing.T) { // P15.1: each of Prot's bits is in Max
	for prot := -9; prot < 17; prot++ {
		for most := -9; most < 17; most++ {
			want := prot >= 0 && prot <= 7 && most >= 0 && most <= 7 && prot|most == most
			e := api.Entry{End: 1, Prot: prot, Max: most}
			if got := entry.Good(e); got != want {
				t.Errorf("Good of Prot %d, Max %d: %v", prot, most, got)
			}
		}
	}
}

func TestRight(t *testing.T) { // P15.1
	bad := plain(5, 5)
	for _, c := range []struct {
		what string
		list []api.Entry
		want bool
	}{
		{"nil", nil, true},
		{"none", []api.Entry{}, true},
		{"one", []api.Entry{plain(2, 6)}, true},
		{"one that is not Good", []api.Entry{bad}, false},
		{"side by side", []api.Entry{plain(2, 6), plain(6, 7)}, true},
		{"side by side, alike", []api.Entry{filed(2, 6, 0), filed(6, 7, 4)}, true},
		{"apart", []api.Entry{plain(0, 1), filed(6, 7, 9), full(9, 20, 0)}, true},
		{"overlapping by one page", []api.Entry{plain(2, 6), plain(5, 7)}, false},
		{"overlapping by one page, the last ones", []api.Entry{plain(0, 1), plain(2, 6), plain(5, 7)}, false},
		{"overlapping by one page, the first ones", []api.Entry{plain(2, 6), plain(5, 7), plain(9, 10)}, false},
		{"overlapping the one ahead of the one ahead", []api.Entry{plain(2, 9), plain(3, 4), plain(5, 7)}, false},
		{"twice the same", []api.Entry{plain(2, 6), plain(2, 6)}, false},
		{"one within another", []api.Entry{plain(2, 6), plain(3, 4)}, false},
		{"out of order", []api.Entry{plain(6, 7), plain(2, 6)}, false},
		{"out of order, apart", []api.Entry{plain(0, 1), plain(6, 7), plain(2, 3)}, false},
		{"one that is not Good in the middle", []api.Entry{plain(2, 5), bad, plain(5, 7)}, false},
		{"one that is not Good at the end", []api.Entry{plain(2, 5), bad}, false},
		{"one that is not Good at the beginning", []api.Entry{bad, plain(5, 7)}, false},
		{"one below 0 first", []api.Entry{plain(-1, 1), plain(5, 7)}, false},
		{"one of Prot that Max lacks in the middle", []api.Entry{plain(2, 5), with(plain(5, 6), func(e *api.Entry) { e.Prot = api.Exec }), plain(6, 7)}, false},
		{"up to MaxVPN", []api.Entry{plain(0, maxVPN-1), plain(maxVPN-1, maxVPN)}, true},
		{"past MaxVPN", []api.Entry{plain(0, maxVPN-1), plain(maxVPN-1, maxVPN+1)}, false},
	} {
		if got := entry.Right(c.list); got != c.want {
			t.Errorf("%s: %v", c.what, got)
		}
	}
	for _, l := range append(few(), small()...) {
		if !entry.Right(l) {
			t.Fatalf("Right(%v): false", l)
		}
	}
}

// finds asks Find for its answer.
func finds(t *testing.T, l []api.Entry, page, want int, has bool) {
	t.Helper()
	if k, ok := entry.Find(l, page); k != want || ok != has {
		t.Fatalf("Find(%v, %d): %d, %v, want %d, %v", l, page, k, ok, want, has)
	}
}

func TestFind(t *testing.T) { // P15.1
	for _, l := range few() {
		for page := -2; page < 20; page++ {
			want, has := len(l), false
			for k, e := range slices.Backward(l) {
				if e.End > page {
					want, has = k, e.Start <= page
				}
			}
			finds(t, l, page, want, has)
		}
		for _, page := range far() {
			if page < 0 {
				finds(t, l, page, 0, false)
			} else {
				finds(t, l, page, len(l), false)
			}
		}
	}
}

func TestFindAtEdges(t *testing.T) { // P15.1
	l := []api.Entry{plain(2, 6), plain(6, 8), plain(9, 10), plain(20, 30)}
	for _, c := range []struct {
		page, want int
		has        bool
	}{
		{-1, 0, false}, {0, 0, false}, {1, 0, false}, {2, 0, true}, {5, 0, true}, {6, 1, true}, {7, 1, true},
		{8, 2, false}, {9, 2, true}, {10, 3, false}, {19, 3, false}, {20, 3, true}, {29, 3, true}, {30, 4, false}, {31, 4, false},
	} {
		finds(t, l, c.page, c.want, c.has)
	}
	for _, page := range append(far(), -1, 0, 1) {
		finds(t, nil, page, 0, false)
		finds(t, []api.Entry{}, page, 0, false)
	}
}

func TestFindAmongMany(t *testing.T) { // P15.1
	var l []api.Entry
	for k := range 5000 {
		l = append(l, plain(3*k+1, 3*k+3))
	}
	for page := range 15000 {
		finds(t, l, page, page/3, page%3 != 0)
	}
	finds(t, l, 15000, 5000, false)
	finds(t, []api.Entry{plain(0, maxVPN)}, maxVPN-1, 0, true)
	finds(t, []api.Entry{plain(0, maxVPN)}, maxVPN, 1, false)
}

// wholes asks Whole for its answer.
func wholes(t *testing.T, l []api.Entry, lo, hi int, want bool) {
	t.Helper()
	if got := entry.Whole(l, lo, hi); got != want {
		t.Fatalf("Whole(%v, %d, %d): %v", l, lo, hi, got)
	}
}

func TestWhole(t *testing.T) { // P15.1
	lists := append(few(),
		[]api.Entry{plain(6, 9), plain(0, 2), plain(4, 6)},                           // out of order
		[]api.Entry{plain(0, 9), plain(1, 2), plain(8, 11), plain(3, 4)},             // one within another, overlapping
		[]api.Entry{plain(5, 2), plain(3, 5), plain(4, 4), plain(0, 3), plain(7, 9)}, // some without pages
	)
	for _, l := range lists {
		for lo := -2; lo < 17; lo++ {
			for hi := -2; hi < 17; hi++ {
				want := true
				for page := lo; page < hi; page++ {
					_, ok := at(l, page)
					want = want && ok
				}
				wholes(t, l, lo, hi, want)
			}
		}
	}
}

func TestWholeAtEdges(t *testing.T) { // P15.1
	l := []api.Entry{plain(2, 6), plain(6, 8), plain(9, 10), plain(10, 30)}
	for _, c := range []struct {
		lo, hi int
		want   bool
	}{
		{4, 4, true}, {0, 0, true}, {8, 8, true}, {40, 40, true}, {-1, -1, true}, {5, 4, true}, {30, 0, true}, {9, 8, true},
		{2, 3, true}, {5, 6, true}, {1, 2, false}, {8, 9, false}, {30, 31, false}, {-1, 0, false},
		{2, 6, true}, {2, 8, true}, {5, 7, true}, {2, 9, false}, {7, 10, false}, {2, 30, false}, {9, 30, true}, {9, 31, false}, {1, 8, false},
	} {
		wholes(t, l, c.lo, c.hi, c.want)
	}
	all := []api.Entry{plain(0, maxVPN)}
	wholes(t, all, 0, maxVPN, true)
	wholes(t, all, 0, maxVPN+1, false)
	wholes(t, all, -1, maxVPN, false)
	wholes(t, all, math.MinInt, math.MaxInt, false)
	wholes(t, all, math.MaxInt, math.MinInt, true)
	for _, lo := range far() {
		for _, hi := range far() {
			wholes(t, nil, lo, hi, lo >= hi)
			wholes(t, []api.Entry{}, lo, hi, lo >= hi)
			wholes(t, all, lo, hi, lo >= hi)
		}
	}
}

// spaces asks Space for its answer; below 0: there is none.
func spaces(t *testing.T, what string, l []api.Entry, hint, pages, want int) {
	t.Helper()
	page, ok := entry.Space(l, hint, pages)
	if ok != (want >= 0) || page != max(0, want) {
		t.Fatalf("%s: Space(%v, %d, %d): %d, %v, want %d", what, l, hint, pages, page, ok, want)
	}
}

func TestSpace(t *testing.T) { // P15.2
	ends := func(page int) api.Entry { return plain(page, maxVPN) }
	for _, c := range []struct {
		what              string
		list              []api.Entry
		hint, pages, want int
	}{
		{"no pages", []api.Entry{plain(2, 6)}, 0, 0, -1},
		{"fewer than no pages", []api.Entry{plain(2, 6)}, 0, -1, -1},
		{"one page", []api.Entry{plain(2, 6)}, 0, 1, 0},
		{"the chapter's example", []api.Entry{plain(2, 6)}, 1, 1, 1},
		{"the chapter's example", []api.Entry{plain(2, 6)}, 1, 2, 6},
		{"MaxVPN pages, no entry", nil, 0, maxVPN, 0},
		{"MaxVPN pages, no entry, an empty list", []api.Entry{}, 0, maxVPN, 0},
		{"MaxVPN pages, no entry, only ahead of the hint", nil, 1, maxVPN, 0},
		{"MaxVPN pages, an entry", []api.Entry{plain(2, 6)}, 0, maxVPN, -1},
		{"MaxVPN + 1 pages", nil, 0, maxVPN + 1, -1},
		{"a hint below 0", []api.Entry{plain(2, 6)}, -1, 1, 0},
		{"a hint far below 0", []api.Entry{plain(0, 6)}, math.MinInt, 1, 6},
		{"a hint of no entry", nil, 9, 3, 9},
		{"a hint at Start", []api.Entry{plain(2, 6)}, 2, 1, 6},
		{"a hint within", []api.Entry{plain(2, 6)}, 4, 1, 6},
		{"a hint at the last page", []api.Entry{plain(2, 6)}, 5, 1, 6},
		{"a hint at the End", []api.Entry{plain(2, 6)}, 6, 1, 6},
		{"a hint behind the End", []api.Entry{plain(2, 6)}, 7, 1, 7},
		{"a hint at the End of one, at the Start of another", []api.Entry{plain(2, 6), plain(6, 8)}, 6, 1, 8},
		{"a hint at MaxVPN", []api.Entry{plain(0, 6)}, maxVPN, 1, 6},
		{"a hint past MaxVPN", []api.Entry{plain(0, 6)}, maxVPN + 1, 1, 6},
		{"a hint greatest", []api.Entry{plain(0, 6)}, math.MaxInt, 1, 6},
		{"a hint that leaves just as much", []api.Entry{plain(0, 6)}, maxVPN - 3, 3, maxVPN - 3},
		{"a hint that leaves one too few", []api.Entry{plain(0, 6)}, maxVPN - 2, 3, 6},
		{"a gap just as great", []api.Entry{plain(0, 2), plain(5, 9)}, 0, 3, 2},
		{"a gap one page too small", []api.Entry{plain(0, 2), plain(5, 9)}, 0, 4, 9},
		{"the first gap is too small, the second one just as great", []api.Entry{plain(0, 2), plain(4, 9), plain(12, 13)}, 0, 3, 9},
		{"of a gap only a part is behind the hint", []api.Entry{plain(0, 2), plain(6, 9)}, 3, 3, 3},
		{"of a gap too small a part is behind the hint", []api.Entry{plain(0, 2), plain(6, 9)}, 4, 3, 9},
		{"space ahead of the first one", []api.Entry{plain(3, 9)}, 0, 3, 0},
		{"space only ahead of the hint", []api.Entry{plain(0, 2), ends(5)}, 5, 3, 2},
		{"space only ahead of the hint, that lies in it", []api.Entry{plain(0, 2), ends(5)}, 3, 3, 2},
		{"space only ahead of the hint, at 0", []api.Entry{ends(5)}, maxVPN, 5, 0},
		{"one page too few ahead of the hint", []api.Entry{ends(5)}, maxVPN, 6, -1},
		{"the lowest one ahead of the hint", []api.Entry{plain(3, 4), plain(6, 9), plain(12, 13), ends(20)}, 18, 3, 0},
		{"none at all", []api.Entry{ends(0)}, 0, 1, -1},
		{"none at all, of many", []api.Entry{plain(0, 5), plain(5, 9), ends(9)}, 7, 1, -1},
		{"none that is so great", []api.Entry{plain(2, 5), plain(7, 9), ends(11)}, 7, 3, -1},
		{"the last page", []api.Entry{plain(0, maxVPN-1)}, 0, 1, maxVPN - 1},
		{"the last page is one too few", []api.Entry{plain(0, maxVPN-1)}, 0, 2, -1},
	} {
		spaces(t, c.what, c.list, c.hint, c.pages, c.want)
	}
	for _, hint := range append(far(), 0) {
		for _, pages := range append(far(), -1, 0, maxVPN+1) {
			spaces(t, "pages that may not be", nil, hint, pages, -1)
			spaces(t, "pages that may not be", []api.Entry{plain(0, 1)}, hint, pages, -1)
		}
	}
}

func TestSpaceOfAllHints(t *testing.T) { // P15.2: what is free lies near 0 and near MaxVPN, where each page is tried
	const near = 12
	var tries []int
	for page := range near {
		tries = append(tries, page, maxVPN-near+page)
	}
	slices.Sort(tries)
	free := func(l []api.Entry, page, pages int) bool {
		for p := page; p < page+pages; p++ {
			if _, has := at(l, p); has {
				return false
			}
		}
		return page+pages <= maxVPN
	}
	tried := func(l []api.Entry, hint, pages int) int {
		for _, from := range []int{hint, 0} {
			for _, page := range tries {
				if page >= from && free(l, page, pages) {
					return page
				}
			}
		}
		return -1
	}
	for _, low := range few() {
		for _, high := range few() {
			var l []api.Entry
			for _, e := range low {
				if e.End <= near {
					l = append(l, e)
				}
			}
			l = append(l, plain(near, maxVPN-near))
			for _, e := range high {
				if e.End <= near {
					e.Start, e.End = e.Start+maxVPN-near, e.End+maxVPN-near
					l = append(l, e)
				}
			}
			for pages := 1; pages <= near+1; pages++ {
				for hint := -1; hint <= near; hint++ {
					spaces(t, "near 0", l, hint, pages, tried(l, hint, pages))
					spaces(t, "near MaxVPN", l, maxVPN-hint, pages, tried(l, maxVPN-hint, pages))
				}
			}
		}
	}
}

func TestClip(t *testing.T) { // P15.2
	one, two, three := plain(2, 6), filed(6, 10, 4), full(12, 15, 0)
	l := []api.Entry{one, two, three}
	for _, c := range []struct {
		what string
		page int
		want []api.Entry
	}{
		{"ahead of all", 1, l},
		{"below 0", -1, l},
		{"at Start", 2, l},
		{"at Start + 1", 3, []api.Entry{plain(2, 3), plain(3, 6), two, three}},
		{"in the middle", 4, []api.Entry{plain(2, 4), plain(4, 6), two, three}},
		{"at End - 1", 5, []api.Entry{plain(2, 5), plain(5, 6), two, three}},
		{"at End, at Start", 6, l},
		{"of a file, at Start + 1", 7, []api.Entry{one, filed(6, 7, 4), filed(7, 10, 5), three}},
		{"of a file, at End - 1", 9, []api.Entry{one, filed(6, 9, 4), filed(9, 10, 7), three}},
		{"at End, at a gap", 10, l},
		{"in a gap", 11, l},
		{"behind a gap", 12, l},
		{"the last one", 13, []api.Entry{one, two, full(12, 13, 0), full(13, 15, 1)}},
		{"the last one's last page", 14, []api.Entry{one, two, full(12, 14, 0), full(14, 15, 2)}},
		{"at the last one's End", 15, l},
		{"behind all", 16, l},
	} {
		isList(t, c.what, entry.Clip(l, c.page), c.want...)
	}
	for _, page := range far() {
		isList(t, "nowhere near", entry.Clip(l, page), l...)
	}
	for _, page := range append(far(), -1, 0, 1) {
		isList(t, "nil", entry.Clip(nil, page))
		isList(t, "an empty list", entry.Clip([]api.Entry{}, page))
	}
	all := []api.Entry{plain(0, maxVPN)}
	isList(t, "all", entry.Clip(all, maxVPN-1), plain(0, maxVPN-1), plain(maxVPN-1, maxVPN))
	isList(t, "all", entry.Clip(all, maxVPN), all...)
	isList(t, "Off of 0 goes on, too", entry.Clip([]api.Entry{filed(0, maxPages, 0)}, maxPages-1), filed(0, maxPages-1, 0), filed(maxPages-1, maxPages, maxPages-1))
}

func TestMerge(t *testing.T) { // P15.2
	for _, c := range []struct {
		what string
		list []api.Entry
		want []api.Entry
	}{
		{"nil", nil, nil},
		{"none", []api.Entry{}, nil},
		{"one", []api.Entry{plain(2, 6)}, []api.Entry{plain(2, 6)}},
		{"two", []api.Entry{plain(2, 4), plain(4, 6)}, []api.Entry{plain(2, 6)}},
		{"three", []api.Entry{plain(2, 4), plain(4, 5), plain(5, 6)}, []api.Entry{plain(2, 6)}},
		{"two of a file, Off goes on", []api.Entry{filed(2, 4, 5), filed(4, 6, 7)}, []api.Entry{filed(2, 6, 5)}},
		{"three of a file, Off goes on", []api.Entry{filed(2, 4, 0), filed(4, 5, 2), filed(5, 9, 3)}, []api.Entry{filed(2, 9, 0)}},
		{"three that have all", []api.Entry{full(2, 4, 0), full(4, 5, 2), full(5, 9, 3)}, []api.Entry{full(2, 9, 0)}},
		{"Off stays", []api.Entry{filed(2, 4, 5), filed(4, 6, 5)}, []api.Entry{filed(2, 4, 5), filed(4, 6, 5)}},
		{"Off is one less", []api.Entry{filed(2, 4, 5), filed(4, 6, 6)}, []api.Entry{filed(2, 4, 5), filed(4, 6, 6)}},
		{"Off is one more", []api.Entry{filed(2, 4, 5), filed(4, 6, 8)}, []api.Entry{filed(2, 4, 5), filed(4, 6, 8)}},
		{"Off goes on from the second one only", []api.Entry{filed(2, 4, 5), filed(4, 6, 5), filed(6, 7, 7)}, []api.Entry{filed(2, 4, 5), filed(4, 7, 5)}},
		{"Off goes on to the second one only", []api.Entry{filed(2, 4, 5), filed(4, 6, 7), filed(6, 7, 7)}, []api.Entry{filed(2, 6, 5), filed(6, 7, 7)}},
		{"Off goes on over a gap", []api.Entry{filed(2, 4, 5), filed(5, 6, 8)}, []api.Entry{filed(2, 4, 5), filed(5, 6, 8)}},
		{"Off goes on but for a gap", []api.Entry{filed(2, 4, 5), filed(5, 6, 7)}, []api.Entry{filed(2, 4, 5), filed(5, 6, 7)}},
		{"a gap of one page", []api.Entry{plain(2, 4), plain(5, 6)}, []api.Entry{plain(2, 4), plain(5, 6)}},
		{"the first two", []api.Entry{plain(2, 4), plain(4, 5), plain(6, 7)}, []api.Entry{plain(2, 5), plain(6, 7)}},
		{"the last two", []api.Entry{plain(2, 4), plain(5, 6), plain(6, 7)}, []api.Entry{plain(2, 4), plain(5, 7)}},
		{"two and two", []api.Entry{plain(2, 4), plain(4, 5), full(5, 6, 0), full(6, 7, 1), plain(7, 8)}, []api.Entry{plain(2, 5), full(5, 7, 0), plain(7, 8)}},
		{"with and without a file", []api.Entry{plain(2, 4), filed(4, 5, 0), plain(5, 6)}, []api.Entry{plain(2, 4), filed(4, 5, 0), plain(5, 6)}},
		{"without a file, as Off would go on", []api.Entry{plain(0, 4), filed(4, 5, 4)}, []api.Entry{plain(0, 4), filed(4, 5, 4)}},
		{"all pages", []api.Entry{plain(0, 1), plain(1, maxVPN-1), plain(maxVPN-1, maxVPN)}, []api.Entry{plain(0, maxVPN)}},
		{"all of a file", []api.Entry{filed(9, 10, 0), filed(10, 9+maxPages, 1)}, []api.Entry{filed(9, 9+maxPages, 0)}},
	} {
		isList(t, c.what, entry.Merge(c.list), c.want...)
	}
}

func TestMergeOfTwoThatDiffer(t *testing.T) { // P15.2: in one field only
	for what, change := range map[string]func(*api.Entry){
		"File":    func(e *api.Entry) { e.File++ },
		"Shared":  func(e *api.Entry) { e.Shared = !e.Shared },
		"Prot":    func(e *api.Entry) { e.Prot ^= api.Exec },
		"Max":     func(e *api.Entry) { e.Max ^= api.Write },
		"Inherit": func(e *api.Entry) { e.Inherit = api.None },
		"Advice":  func(e *api.Entry) { e.Advice = api.DontNeed },
		"Wired":   func(e *api.Entry) { e.Wired = !e.Wired },
		"Off":     func(e *api.Entry) { e.Off++ },
	} {
		low, high := full(4, 8, 6), with(full(8, 9, 10), change)
		isList(t, what, entry.Merge([]api.Entry{low, high}), low, high)
		low, high = with(full(4, 8, 6), change), full(8, 9, 10)
		isList(t, what, entry.Merge([]api.Entry{low, high}), low, high)
		isList(t, what, entry.Merge([]api.Entry{with(full(4, 8, 6), change), with(full(8, 9, 10), change)}), with(full(4, 9, 6), change))
		if what == "File" || what == "Off" {
			continue
		}
		bare := with(full(4, 8, 0), func(e *api.Entry) { e.File = 0 })
		other := with(bare, func(e *api.Entry) { e.Start, e.End = 8, 9; change(e) })
		isList(t, what+", of no file", entry.Merge([]api.Entry{bare, other}), bare, other)
	}
}

// inserts asks Insert for its answer.
func inserts(t *testing.T, what string, l []api.Entry, e api.Entry, ok bool, want ...api.Entry) {
	t.Helper()
	got, done := entry.Insert(l, e)
	isList(t, what, got, want...)
	if done != ok {
		t.Fatalf("%s: Insert(%v, %v): %v", what, l, e, done)
	}
}

func TestInsert(t *testing.T) { // P15.2
	one, two := plain(2, 6), filed(9, 12, 0)
	l := []api.Entry{one, two}
	for _, c := range []struct {
		what       string
		start, end int
		place      int
	}{
		{"ahead of all", 0, 1, 0},
		{"ahead of all, up to the first one", 0, 2, 0},
		{"ahead of all, one page side by side", 1, 2, 0},
		{"into a gap", 7, 8, 1},
		{"into a gap, at its beginning", 6, 8, 1},
		{"into a gap, at its end", 7, 9, 1},
		{"into a gap that it just fills", 6, 9, 1},
		{"behind all, side by side", 12, 13, 2},
		{"behind all", 20, 30, 2},
		{"behind all, up to MaxVPN", maxVPN - 1, maxVPN, 2},
		{"all that is left", 12, maxVPN, 2},
	} {
		for _, e := range []api.Entry{plain(c.start, c.end), with(plain(c.start, c.end), func(e *api.Entry) { e.Wired = true })} {
			inserts(t, c.what, l, e, true, slices.Insert(slices.Clone(l), c.place, e)...)
		}
	}
	for _, c := range []struct {
		what       string
		start, end int
	}{
		{"by one page over the first one's beginning", 0, 3},
		{"by one page over the first one's end", 5, 7},
		{"by one page over the second one's beginning", 6, 10},
		{"by one page over the second one's end", 11, 13},
		{"over both, by one page", 5, 10},
		{"the gap, and a page ahead of it", 5, 9},
		{"over all", 0, 20},
		{"over the first one just so", 2, 6},
		{"over the first page", 2, 3},
		{"over the last page", 11, 12},
		{"within one", 3, 4},
		{"no pages", 7, 7},
		{"fewer than no pages", 8, 7},
		{"below 0", -1, 1},
		{"past MaxVPN", maxVPN - 1, maxVPN + 1},
	} {
		inserts(t, c.what, l, plain(c.start, c.end), false, l...)
	}
	inserts(t, "Prot that Max lacks", l, with(plain(7, 8), func(e *api.Entry) { e.Prot = api.Exec }), false, l...)
	inserts(t, "Off without a file", l, with(plain(7, 8), func(e *api.Entry) { e.Off = 1 }), false, l...)
	inserts(t, "Start greatest, End least", l, plain(math.MaxInt, math.MinInt), false, l...)
	inserts(t, "Start least, End greatest", l, plain(math.MinInt, math.MaxInt), false, l...)
}

func TestInsertIntoNone(t *testing.T) { // P15.2
	for _, l := range [][]api.Entry{nil, {}} {
		inserts(t, "one", l, full(3, 9, 1), true, full(3, 9, 1))
		inserts(t, "all", l, plain(0, maxVPN), true, plain(0, maxVPN))
		inserts(t, "one that is not Good", l, plain(3, 3), false)
		inserts(t, "one of zeros", l, api.Entry{}, false)
	}
}

func TestInsertDoesNotMerge(t *testing.T) { // P15.2: e is at its place, as it is
	inserts(t, "between", []api.Entry{plain(0, 2), plain(3, 5)}, plain(2, 3), true, plain(0, 2), plain(2, 3), plain(3, 5))
	inserts(t, "no merging where it may not stand", []api.Entry{plain(0, 2), plain(2, 5)}, plain(4, 6), false, plain(0, 2), plain(2, 5))
}

func TestInsertOfAll(t *testing.T) { // P15.2: each entry into each list
	for _, l := range few() {
		for start := -1; start < 17; start++ {
			for end := -1; end < 17; end++ {
				e := full(start, end, 0)
				free := entry.Good(e)
				place := 0
				for page := start; page < end; page++ {
					_, has := at(l, page)
					free = free && !has
				}
				for _, x := range l {
					if x.End <= start {
						place++
					}
				}
				if free {
					inserts(t, "free", l, e, true, slices.Insert(slices.Clone(l), place, e)...)
				} else {
					inserts(t, "not free", l, e, false, l...)
				}
			}
		}
	}
}

func TestCut(t *testing.T) { // P15.2
	one, two, three := plain(2, 6), filed(6, 10, 4), full(12, 15, 0)
	l := []api.Entry{one, two, three}
	for _, c := range []struct {
		what   string
		lo, hi int
		left   []api.Entry
		cut    []api.Entry
	}{
		{"nothing, ahead of all", 0, 2, l, nil},
		{"nothing, in a gap", 10, 12, l, nil},
		{"nothing, behind all", 15, 99, l, nil},
		{"nothing, below 0", -9, -1, l, nil},
		{"everything", 2, 15, nil, l},
		{"more than everything", -5, maxVPN + 5, nil, l},
		{"from the least to the greatest", math.MinInt, math.MaxInt, nil, l},
		{"one", 6, 10, []api.Entry{one, three}, []api.Entry{two}},
		{"one, and a gap", 6, 12, []api.Entry{one, three}, []api.Entry{two}},
		{"two, up to a gap", 0, 11, []api.Entry{three}, []api.Entry{one, two}},
		{"the beginning of one", 2, 4, []api.Entry{plain(4, 6), two, three}, []api.Entry{plain(2, 4)}},
		{"the end of one", 4, 6, []api.Entry{plain(2, 4), two, three}, []api.Entry{plain(4, 6)}},
		{"the middle of one", 3, 5, []api.Entry{plain(2, 3), plain(5, 6), two, three}, []api.Entry{plain(3, 5)}},
		{"the middle of one of a file", 7, 9, []api.Entry{one, filed(6, 7, 4), filed(9, 10, 7), three}, []api.Entry{filed(7, 9, 5)}},
		{"from the middle of one to the middle of the next one", 5, 8, []api.Entry{plain(2, 5), filed(8, 10, 6), three}, []api.Entry{plain(5, 6), filed(6, 8, 4)}},
		{"from the middle of one to the middle of another", 3, 14, []api.Entry{plain(2, 3), full(14, 15, 2)}, []api.Entry{plain(3, 6), two, full(12, 14, 0)}},
		{"lo at hi, at Start", 2, 2, l, nil},
		{"lo at hi, in a gap", 11, 11, l, nil},
		{"lo at hi, within one", 7, 7, []api.Entry{one, filed(6, 7, 4), filed(7, 10, 5), three}, nil},
		{"lo above hi, at Starts", 12, 2, l, nil},
		{"lo above hi, within one", 5, 3, []api.Entry{plain(2, 3), plain(3, 5), plain(5, 6), two, three}, nil},
		{"lo above hi, within two", 13, 3, []api.Entry{plain(2, 3), plain(3, 6), two, full(12, 13, 0), full(13, 15, 1)}, nil},
		{"from the greatest to the least", math.MaxInt, math.MinInt, l, nil},
	} {
		left, cut := entry.Cut(l, c.lo, c.hi)
		isList(t, c.what+": what is left", left, c.left...)
		isList(t, c.what+": what was cut", cut, c.cut...)
	}
	for _, lo := range far() {
		for _, hi := range far() {
			left, cut := entry.Cut(nil, lo, hi)
			isList(t, "nil", append(left, cut...))
			left, cut = entry.Cut([]api.Entry{}, lo, hi)
			isList(t, "an empty list", append(left, cut...))
			left, cut = entry.Cut(l, lo, hi)
			isList(t, "nowhere near", append(left, cut...), l...)
		}
	}
}

func TestClipAndMergeChangeNoPage(t *testing.T) { // P15.3
	for _, l := range append(few(), small()...) {
		merged := entry.Merge(l)
		alike(t, "Merge", merged, l, 20)
		if !entry.Right(merged) {
			t.Fatalf("Merge(%v): %v is not right", l, merged)
		}
		isList(t, "Merge once more", entry.Merge(merged), merged...)
		for page := -1; page < 8; page++ {
			clipped := entry.Clip(l, page)
			alike(t, "Clip", clipped, l, 20)
			if !entry.Right(clipped) {
				t.Fatalf("Clip(%v, %d): %v is not right", l, page, clipped)
			}
			for _, e := range clipped {
				if e.Start < page && page < e.End {
					t.Fatalf("Clip(%v, %d): %v", l, page, clipped)
				}
			}
			isList(t, "Clip once more", entry.Clip(clipped, page), clipped...)
			isList(t, "Merge of what was clipped", entry.Merge(clipped), merged...)
		}
	}
}

func TestNoTwoThatMergeLeavesAreOne(t *testing.T) { // P15.2, P15.3
	for _, l := range small() {
		merged := entry.Merge(l)
		for k := 1; k < len(merged); k++ {
			a, _ := at(merged, merged[k].Start-1)
			b := merged[k]
			goes := b.File == 0 || a.Off+1 == b.Off
			a.Start, a.End, a.Off = b.Start, b.End, b.Off
			if merged[k-1].End == b.Start && a == b && goes {
				t.Fatalf("Merge(%v): %v", l, merged)
			}
		}
	}
}

func TestWhatIsCutAndInsertedAgain(t *testing.T) { // P15.3
	for _, l := range append(few(), small()...) {
		for lo := -1; lo < 7; lo++ {
			for hi := -1; hi < 7; hi++ {
				left, cut := entry.Cut(l, lo, hi)
				for page := range 20 {
					want := left
					if lo <= page && page < hi {
						want = cut
					}
					x, ok := at(l, page)
					y, has := at(want, page)
					_, once := at(left, page)
					_, more := at(cut, page)
					if x != y || ok != has || once && more {
						t.Fatalf("Cut(%v, %d, %d): page %d: %v, %v", l, lo, hi, page, left, cut)
					}
				}
				if !entry.Right(left) || !entry.Right(cut) {
					t.Fatalf("Cut(%v, %d, %d): %v, %v are not right", l, lo, hi, left, cut)
				}
				again := left
				for _, e := range slices.Backward(cut) {
					var ok bool
					if again, ok = entry.Insert(again, e); !ok {
						t.Fatalf("Cut(%v, %d, %d): %v can't be inserted", l, lo, hi, e)
					}
				}
				isList(t, "again", again, entry.Clip(entry.Clip(l, lo), hi)...)
				isList(t, "again, merged", entry.Merge(again), entry.Merge(l)...)
			}
		}
	}
}

// odd is what lies in the room behind a list's end, and what is written over lists.
func odd(n int) api.Entry { return full(-n, -n-1, -n) }

// roomy is a list with room behind its end, in which something lies.
func roomy(l []api.Entry) []api.Entry {
	const spare = 5
	out := slices.Clone(l)
	for n := range spare {
		out = append(out, odd(n+1))
	}
	return out[:len(l)]
}

// scribble writes over a list, and over the room behind its end.
func scribble(l []api.Entry) {
	l = l[:cap(l)]
	for k := range l {
		l[k] = odd(k + 100)
	}
}

// changers are the calls that answer lists, by what they are told as.
func changers() map[string]func(l []api.Entry) [][]api.Entry {
	calls := map[string]func(l []api.Entry) [][]api.Entry{
		"Merge": func(l []api.Entry) [][]api.Entry { return [][]api.Entry{entry.Merge(l)} },
	}
	for _, lo := range []int{-1, 0, 1, 2, 3, 4, 8, 20, math.MinInt, math.MaxInt} {
		calls[fmt.Sprint("Clip at ", lo)] = func(l []api.Entry) [][]api.Entry { return [][]api.Entry{entry.Clip(l, lo)} }
		for _, hi := range []int{-1, 0, 2, 3, 5, 9, 20, math.MinInt, math.MaxInt} {
			calls[fmt.Sprint("Cut from ", lo, " to ", hi)] = func(l []api.Entry) [][]api.Entry {
				left, cut := entry.Cut(l, lo, hi)
				return [][]api.Entry{left, cut}
			}
			calls[fmt.Sprint("Insert from ", lo, " to ", hi)] = func(l []api.Entry) [][]api.Entry {
				out, _ := entry.Insert(l, plain(lo, hi))
				return [][]api.Entry{out}
			}
		}
	}
	return calls
}

// copies are lists in other memory.
func copies(lists [][]api.Entry) [][]api.Entry {
	var out [][]api.Entry
	for _, l := range lists {
		out = append(out, slices.Clone(l))
	}
	return out
}

func TestListsAreNewMemory(t *testing.T) { // R3
	for what, call := range changers() {
		for _, list := range few() {
			l := roomy(list)
			behind := slices.Clone(l[len(l):cap(l)])
			isAsItWas := func(when string) {
				t.Helper()
				isList(t, what+": the list handed in, "+when, l, list...)
				isList(t, what+": the room behind its end, "+when, l[len(l):cap(l)], behind...)
			}
			answers := call(l)
			isAsItWas("behind the call")
			for k, a := range answers {
				if slices.ContainsFunc(a[len(a):cap(a)], func(e api.Entry) bool { return e != api.Entry{} }) {
					t.Errorf("%s: spare room: %v", what, a[:cap(a)])
				}
				kept := copies(answers)
				scribble(a)
				isAsItWas("behind a change of the answer")
				for n, b := range answers {
					if n != k {
						isList(t, what+": the other list of the answer", b, kept[n]...)
					}
				}
			}
			again := call(l)
			kept := copies(again)
			scribble(l)
			for k := range again {
				isList(t, what+": the answer, behind a change of the list handed in", again[k], kept[k]...)
			}
		}
	}
}

func TestCallsThatTellChangeNothing(t *testing.T) { // R3
	for _, list := range append(few(), []api.Entry{plain(6, 9), plain(0, 2), plain(4, 6)}) {
		l := roomy(list)
		behind := slices.Clone(l[len(l):cap(l)])
		entry.Right(l)
		for lo := -1; lo < 17; lo++ {
			entry.Find(l, lo)
			for hi := -1; hi < 17; hi++ {
				entry.Whole(l, lo, hi)
				entry.Space(l, lo, hi)
			}
		}
		isList(t, "the list handed in", l, list...)
		isList(t, "the room behind its end", l[len(l):cap(l)], behind...)
	}
}

func TestListsThatAreNotRight(t *testing.T) { // R1, R3: all calls end, and change nothing
	few := []api.Entry{plain(3, 5), plain(0, 4), plain(7, 2), full(math.MinInt, math.MaxInt, math.MaxInt), full(math.MaxInt, math.MinInt, math.MinInt), {}, plain(9, 9), odd(1)}
	numbers := append(far(), -1, 0, 1, 3, 4, maxVPN, maxVPN+1)
	for a := range few {
		for b := range few {
			for c := range few {
				list := []api.Entry{few[a], few[b], few[c]}
				l := roomy(list)
				behind := slices.Clone(l[len(l):cap(l)])
				for _, lo := range numbers {
					entry.Find(l, lo)
					entry.Clip(l, lo)
					for _, hi := range numbers {
						entry.Space(l, lo, hi)
						entry.Cut(l, lo, hi)
						entry.Whole(l, lo, hi)
						entry.Insert(l, plain(lo, hi))
					}
				}
				entry.Merge(l)
				entry.Right(l)
				isList(t, "the list handed in", l, list...)
				isList(t, "the room behind its end", l[len(l):cap(l)], behind...)
			}
		}
	}
}
