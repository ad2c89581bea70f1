package object_test

import (
	"iter"
	"math"
	"slices"
	"testing"

	"pantry/api"
	"pantry/object"
)

const (
	maxItems = 4096
	maxPages = 4096
	most     = 1000000 // Refs
)

// far has numbers that are nowhere near any object's number, file, index, or number of objects or Refs.
func far() []int {
	return []int{-2, -maxItems, -most - 2, most + 2, 1 << 31, 1 << 32, 1<<32 + 1, -1 << 32, 1 - 1<<32, 1 << 62, -1 << 62, math.MinInt, math.MinInt + 1, math.MaxInt, math.MaxInt - 1}
}

// anyNumber has numbers of whatever kind.
func anyNumber() []int { return append(far(), -1, 0, 1, 2, 3, maxPages, maxPages+1) }

// noObject has numbers that none has in a pool with room for so many.
func noObject(room int) []int { return append(far(), -1, 0, room+1, room+2, maxItems+1) }

// noIndex has numbers that are no page's index.
func noIndex() []int { return append(far(), -1, maxPages, maxPages+1) }

// page is a page that no other number has.
func page(n int) object.Page { return object.Page{Frame: n, Slot: 10 * n, Dirty: n%2 == 1} }

// thing is what an object has.
type thing struct {
	file, refs int
	pages      map[int]object.Page
}

// model is what a pool has: the objects by their numbers, and for how many there is room.
type model struct {
	room   int
	things map[int]*thing
}

// ids are the numbers of a model, rising.
func (m *model) ids() []int {
	var list []int
	for id := 1; id <= m.room; id++ {
		if m.things[id] != nil {
			list = append(list, id)
		}
	}
	return list
}

// lowest is the lowest number from 1 on that none has.
func (m *model) lowest() int {
	id := 1
	for m.things[id] != nil {
		id++
	}
	return id
}

// of is the number of a file's object, or 0.
func (m *model) of(file int) int {
	for id, o := range m.things {
		if file > 0 && o.file == file {
			return id
		}
	}
	return 0
}

// settle makes an object go that has neither Refs nor pages.
func (m *model) settle(id int) {
	if o := m.things[id]; o.refs == 0 && len(o.pages) == 0 {
		delete(m.things, id)
	}
}

// pair is an index, and the page there.
type pair struct {
	index int
	page  object.Page
}

// collect has all that an iterator tells.
func collect(seq iter.Seq2[int, object.Page]) []pair {
	var list []pair
	for index, x := range seq {
		list = append(list, pair{index, x})
	}
	return list
}

// pairs are a thing's pages from lo to below hi.
func (o *thing) pairs(lo, hi int) []pair {
	var list []pair
	for index, x := range o.pages {
		if index >= lo && index < hi {
			list = append(list, pair{index, x})
		}
	}
	slices.SortFunc(list, func(a, b pair) int { return a.index - b.index })
	return list
}

// has asks whether an object is as a thing.
func has(t *testing.T, what string, p *object.Pool, id int, o *thing) {
	t.Helper()
	if file := p.File(id); file != o.file {
		t.Fatalf("%s: File(%d): %d, want %d", what, id, file, o.file)
	}
	for _, index := range append(noIndex(), 0, 1, 2, 3, 4, 5, 6, 7, 8, maxPages-2, maxPages-1) {
		want, there := o.pages[index]
		if x, ok := p.Get(id, index); x != want || ok != there {
			t.Fatalf("%s: Get(%d, %d): %v, %v, want %v, %v", what, id, index, x, ok, want, there)
		}
	}
	for index, want := range o.pages {
		if x, ok := p.Get(id, index); x != want || !ok {
			t.Fatalf("%s: Get(%d, %d): %v, %v, want %v", what, id, index, x, ok, want)
		}
	}
	if list := collect(p.Pages(id, 0, maxPages)); !slices.Equal(list, o.pairs(0, maxPages)) {
		t.Fatalf("%s: Pages(%d): %v, want %v", what, id, list, o.pairs(0, maxPages))
	}
	if n, err := p.Ref(id, 0); n != o.refs || err != api.OK {
		t.Fatalf("%s: Ref(%d, 0): %d, %v, want %d", what, id, n, err, o.refs)
	}
}

// hasNot asks whether there is no such object.
func hasNot(t *testing.T, what string, p *object.Pool, id int, e api.Errno) {
	t.Helper()
	if file := p.File(id); file != 0 {
		t.Fatalf("%s: File(%d): %d, want 0", what, id, file)
	}
	for _, index := range anyNumber() {
		if x, ok := p.Get(id, index); x != (object.Page{}) || ok {
			t.Fatalf("%s: Get(%d, %d): %v, %v, want none", what, id, index, x, ok)
		}
	}
	if list := collect(p.Pages(id, math.MinInt, math.MaxInt)); len(list) != 0 {
		t.Fatalf("%s: Pages(%d): %v, want nothing", what, id, list)
	}
	if n, err := p.Ref(id, 0); n != 0 || err != e {
		t.Fatalf("%s: Ref(%d, 0): %d, %v, want 0, %v", what, id, n, err, e)
	}
}

// holds asks everything of a pool, which is to be as a model.
func holds(t *testing.T, what string, p *object.Pool, m *model) {
	t.Helper()
	if ids := p.Ids(); !slices.Equal(ids, m.ids()) {
		t.Fatalf("%s: Ids: %v, want %v", what, ids, m.ids())
	}
	for id := 1; id <= m.room; id++ {
		if o := m.things[id]; o != nil {
			has(t, what, p, id, o)
			continue
		}
		hasNot(t, what, p, id, api.ErrNone)
	}
	for _, id := range noObject(m.room) {
		hasNot(t, what, p, id, api.ErrNone)
	}
	for _, file := range append(far(), -1, 0, 1, 2, 3, 4, 5, 6, 7, 8, 9) {
		of(t, what, p, file, m.of(file))
	}
	for _, o := range m.things {
		of(t, what, p, o.file, m.of(o.file))
	}
}

// of asks Of for its answer.
func of(t *testing.T, what string, p *object.Pool, file, want int) {
	t.Helper()
	if id := p.Of(file); id != want {
		t.Fatalf("%s: Of(%d): %d, want %d", what, file, id, want)
	}
}

// makes asks Make for its answer.
func makes(t *testing.T, what string, p *object.Pool, file, want int, e api.Errno) {
	t.Helper()
	if id, err := p.Make(file); id != want || err != e {
		t.Fatalf("%s: Make(%d): %d, %v, want %d, %v", what, file, id, err, want, e)
	}
}

// refs asks Ref for its answer.
func refs(t *testing.T, what string, p *object.Pool, id, by, want int, e api.Errno) {
	t.Helper()
	if n, err := p.Ref(id, by); n != want || err != e {
		t.Fatalf("%s: Ref(%d, %d): %d, %v, want %d, %v", what, id, by, n, err, want, e)
	}
}

// puts asks Put for its answer.
func puts(t *testing.T, what string, p *object.Pool, id, index int, x object.Page, e api.Errno) {
	t.Helper()
	if err := p.Put(id, index, x); err != e {
		t.Fatalf("%s: Put(%d, %d, %v): %v, want %v", what, id, index, x, err, e)
	}
}

// drops asks Drop for its answer.
func drops(t *testing.T, what string, p *object.Pool, id, index int, want bool) {
	t.Helper()
	if ok := p.Drop(id, index); ok != want {
		t.Fatalf("%s: Drop(%d, %d): %v, want %v", what, id, index, ok, want)
	}
}

// makeIt makes an object, in a model too.
func makeIt(t *testing.T, what string, p *object.Pool, m *model, file int) int {
	t.Helper()
	id := m.lowest()
	makes(t, what, p, file, id, api.OK)
	m.things[id] = &thing{file, 1, map[int]object.Page{}}
	return id
}

// refIt makes an object referred to so many times more, in a model too.
func refIt(t *testing.T, what string, p *object.Pool, m *model, id, by int) {
	t.Helper()
	o := m.things[id]
	o.refs += by
	refs(t, what, p, id, by, o.refs, api.OK)
	m.settle(id)
}

// putIt puts a page, into a model too.
func putIt(t *testing.T, what string, p *object.Pool, m *model, id, index int, x object.Page) {
	t.Helper()
	puts(t, what, p, id, index, x, api.OK)
	m.things[id].pages[index] = x
}

// dropIt drops a page that is there, in a model too.
func dropIt(t *testing.T, what string, p *object.Pool, m *model, id, index int) {
	t.Helper()
	drops(t, what, p, id, index, true)
	delete(m.things[id].pages, index)
	m.settle(id)
}

// goes makes an object go, whatever it has.
func goes(t *testing.T, p *object.Pool, m *model, id int) {
	t.Helper()
	for _, x := range m.things[id].pairs(0, maxPages) {
		dropIt(t, "goes", p, m, id, x.index)
	}
	if o := m.things[id]; o != nil {
		refIt(t, "goes", p, m, id, -o.refs)
	}
}

// made has objects of files, and room for so many.
func made(t *testing.T, room int, files ...int) (*object.Pool, *model) {
	t.Helper()
	p, m := object.New(room), &model{room, map[int]*thing{}}
	if p == nil {
		t.Fatalf("New(%d): nil", room)
	}
	for _, file := range files {
		makeIt(t, "made", p, m, file)
	}
	return p, m
}

// full asks that all numbers that are free are had in order, and that none is behind them.
func full(t *testing.T, what string, p *object.Pool, m *model) {
	t.Helper()
	for len(m.things) < m.room {
		makeIt(t, what, p, m, 0)
	}
	makes(t, what, p, 0, 0, api.ErrNoMem)
	holds(t, what, p, m)
}

func TestNew(t *testing.T) { // P14.1
	for _, n := range []int{0, 1, 2, 3, 9, 100} {
		p, m := made(t, n)
		holds(t, "New", p, m)
		full(t, "New", p, m)
	}
	for _, n := range []int{maxItems - 1, maxItems} {
		p := object.New(n)
		if p == nil {
			t.Fatalf("New(%d): nil", n)
		}
		if ids := p.Ids(); len(ids) != 0 {
			t.Errorf("New(%d): Ids: %v", n, ids)
		}
	}
	for _, n := range append(far(), -1, maxItems+1, maxItems+2, 2*maxItems) {
		if object.New(n) != nil {
			t.Errorf("New(%d): not nil", n)
		}
	}
}

func TestNewIsApart(t *testing.T) { // P14.1
	a, am := made(t, 4, 3, 0)
	b, bm := made(t, 4)
	putIt(t, "the one", a, am, 1, 5, page(5))
	holds(t, "the other", b, bm)
	makeIt(t, "the other", b, bm, 3) // the file has an object in the one only
	putIt(t, "the other", b, bm, 1, 6, page(6))
	refIt(t, "the other", b, bm, 1, 4)
	holds(t, "the one", a, am)
	goes(t, a, am, 1)
	holds(t, "the other", b, bm)
	holds(t, "the one", a, am)
}

func TestChaptersExample(t *testing.T) { // P14.1, P14.2, P14.3
	p := object.New(9)
	makes(t, "the example", p, 3, 1, api.OK)
	puts(t, "the example", p, 1, 0, page(7), api.OK)
	refs(t, "the example", p, 1, -1, 0, api.OK)
	of(t, "the example", p, 3, 1)
	drops(t, "the example", p, 1, 0, true)
	of(t, "the example", p, 3, 0)
	holds(t, "the example", p, &model{9, nil})
}

func TestMakeOfFiles(t *testing.T) { // P14.1, P14.3
	p, m := made(t, 9, 3, 16, 1)
	holds(t, "three files", p, m)
	for _, file := range []int{3, 16, 1} {
		makes(t, "a file that has an object", p, file, 0, api.ErrBusy)
	}
	for _, file := range []int{math.MaxInt, 1 << 32, 2} { // any number above 0 is a file's
		makeIt(t, "whatever number", p, m, file)
		makes(t, "whatever number", p, file, 0, api.ErrBusy)
	}
	holds(t, "six files", p, m)
	for _, file := range []int{-1, -3, -2, math.MinInt, math.MinInt + 1, -1 << 32, 3 - 1<<32} {
		makes(t, "no file", p, file, 0, api.ErrInval)
		of(t, "no file", p, file, 0)
	}
	holds(t, "six files", p, m)
}

func TestMakeOfNoFile(t *testing.T) { // P14.1
	p, m := made(t, 6, 0, 0, 5, 0)
	holds(t, "no file", p, m)
	of(t, "no file", p, 0, 0)
	goes(t, p, m, 2)
	holds(t, "one of no file is gone", p, m)
	makes(t, "the file has one still", p, 5, 0, api.ErrBusy)
	makeIt(t, "no file", p, m, 0)
	makeIt(t, "no file", p, m, 0)
	holds(t, "no file", p, m)
}

func TestMakeOfAFileWhoseObjectIsGone(t *testing.T) { // P14.1, P14.2, P14.3
	p, m := made(t, 4, 7, 3, 9)
	for range 3 {
		refIt(t, "gone", p, m, m.of(3), -1)
		holds(t, "gone", p, m)
		makeIt(t, "again", p, m, 3)
		holds(t, "again", p, m)
	}
	refIt(t, "its number is another's", p, m, 2, -1)
	makeIt(t, "its number is another's", p, m, 0)
	makeIt(t, "another number", p, m, 3)
	holds(t, "another number", p, m)
	refIt(t, "the one of no file is gone", p, m, 2, -1)
	makes(t, "the file has one", p, 3, 0, api.ErrBusy)
	holds(t, "the file has one", p, m)
}

func TestAnObjectWithoutRefsIsItsFilesStill(t *testing.T) { // P14.1, P14.3
	p, m := made(t, 3, 3, 4)
	putIt(t, "pages", p, m, 1, 8, page(8))
	refIt(t, "no Refs", p, m, 1, -1)
	makes(t, "the file has one", p, 3, 0, api.ErrBusy)
	makeIt(t, "its number is had", p, m, 0)
	makes(t, "it is one of those there may be", p, 5, 0, api.ErrNoMem)
	holds(t, "no Refs", p, m)
	dropIt(t, "no pages", p, m, 1, 8)
	holds(t, "gone", p, m)
	makeIt(t, "again", p, m, 3)
	holds(t, "again", p, m)
}

func TestTheOrderOfMakesErrors(t *testing.T) { // P14.1, R2: ErrInval, ErrBusy, ErrNoMem
	p, m := made(t, 2, 3, 0)
	for _, file := range []int{-1, -2, math.MinInt} {
		makes(t, "full", p, file, 0, api.ErrInval)
	}
	makes(t, "full", p, 3, 0, api.ErrBusy)
	makes(t, "full", p, 0, 0, api.ErrNoMem)
	makes(t, "full", p, 4, 0, api.ErrNoMem)
	makes(t, "full", p, math.MaxInt, 0, api.ErrNoMem)
	holds(t, "full", p, m)
	of(t, "what was refused has no object", p, 4, 0)
	goes(t, p, m, 2)
	makeIt(t, "room", p, m, 4)
	holds(t, "room", p, m)

	none, nm := made(t, 0)
	makes(t, "no room", none, -1, 0, api.ErrInval)
	makes(t, "no room", none, 3, 0, api.ErrNoMem)
	makes(t, "no room", none, 0, 0, api.ErrNoMem)
	holds(t, "no room", none, nm)
}

func TestMakeUntilThereAreMost(t *testing.T) { // P14.1
	for _, n := range []int{1, 2, 5, 40} {
		p, m := made(t, n)
		for k := range n {
			makeIt(t, "one more", p, m, k%3*(k+1)) // some of a file, some of none
			holds(t, "one more", p, m)
		}
		makes(t, "no room", p, 0, 0, api.ErrNoMem)
		makes(t, "no room", p, 77, 0, api.ErrNoMem)
		holds(t, "no room", p, m)
	}
	p := object.New(maxItems)
	for id := 1; id <= maxItems; id++ {
		makes(t, "as many as there may be", p, id, id, api.OK)
	}
	makes(t, "as many as there may be", p, maxItems+1, 0, api.ErrNoMem)
	refs(t, "as many as there may be", p, maxItems, -1, 0, api.OK)
	refs(t, "as many as there may be", p, 2048, -1, 0, api.OK)
	makes(t, "as many as there may be", p, 0, 2048, api.OK)
	makes(t, "as many as there may be", p, 0, maxItems, api.OK)
	makes(t, "as many as there may be", p, 0, 0, api.ErrNoMem)
	if ids := p.Ids(); len(ids) != maxItems || !slices.IsSorted(ids) || ids[0] != 1 {
		t.Errorf("Ids: %d of them", len(ids))
	}
}

func TestMakeTakesTheLowest(t *testing.T) { // P14.1
	for id := 1; id <= 6; id++ { // the first one, the last one and those between
		for _, room := range []int{6, 7, 12} {
			p, m := made(t, room, 11, 12, 13, 14, 15, 16)
			goes(t, p, m, id)
			holds(t, "one is gone", p, m)
			makeIt(t, "one is gone", p, m, 20)
			holds(t, "its number is had again", p, m)
			full(t, "its number is had again", p, m)
		}
	}
}

// orders tells all orders of a list.
func orders(list []int, tell func([]int)) {
	var from func(k int)
	from = func(k int) {
		if k == len(list) {
			tell(slices.Clone(list))
			return
		}
		for i := k; i < len(list); i++ {
			list[k], list[i] = list[i], list[k]
			from(k + 1)
			list[k], list[i] = list[i], list[k]
		}
	}
	from(0)
}

func TestMakeTakesTheLowestInWhateverOrderTheyGo(t *testing.T) { // P14.1
	for _, ids := range [][]int{{1, 2}, {2, 5}, {1, 4, 6}, {3, 4, 5, 6}, {1, 2, 3, 4, 5, 6}} {
		orders(ids, func(order []int) {
			p, m := made(t, 7, 11, 0, 13, 14, 0, 16)
			for _, id := range order {
				goes(t, p, m, id)
			}
			full(t, "several are gone", p, m)
		})
	}
}

func TestANewOneHasNothingOfTheOneAhead(t *testing.T) { // P14.1, P14.3
	p, m := made(t, 3, 1, 2, 3)
	putIt(t, "the one ahead", p, m, 2, 0, page(1))
	putIt(t, "the one ahead", p, m, 2, maxPages-1, page(2))
	refIt(t, "the one ahead", p, m, 2, 6)
	goes(t, p, m, 2)
	makeIt(t, "the new one", p, m, 0)
	holds(t, "the new one", p, m)
}

func TestOfAndFileOfNone(t *testing.T) { // P14.1
	p, m := made(t, 9, 3, 0, 5)
	of(t, "no file's number", p, 0, 0)
	of(t, "no file's number", p, -1, 0)
	of(t, "a file that never had one", p, 4, 0)
	of(t, "an object's number is no file's", p, 1, 0)
	of(t, "a file that has one", p, 5, 3)
	for _, id := range append(noObject(9), 4, 9) {
		if file := p.File(id); file != 0 {
			t.Errorf("File(%d): %d, want 0", id, file)
		}
	}
	if file := p.File(2); file != 0 {
		t.Errorf("File of one of no file: %d, want 0", file)
	}
	goes(t, p, m, 3)
	of(t, "one that is gone", p, 5, 0)
	if file := p.File(3); file != 0 {
		t.Errorf("File of one that is gone: %d, want 0", file)
	}
	holds(t, "one is gone", p, m)
}

func TestRef(t *testing.T) { // P14.1
	p, m := made(t, 3, 1, 2, 0)
	putIt(t, "Ref", p, m, 2, 3, page(3))
	for _, by := range []int{0, 1, 0, 5, -1, -2, 300, -304, 0, 0, 1, most - 1, 0, -1, 1, -most, most, -most + 1, 0, most - 2} {
		refIt(t, "Ref", p, m, 2, by)
		holds(t, "Ref", p, m)
	}
}

func TestRefToTheEnds(t *testing.T) { // P14.1, R2
	for _, pages := range []int{0, 1} {
		for _, count := range []int{1, 2, 3, 500, most / 2, most - 1, most} {
			p, m := made(t, 3, 1, 2, 3)
			if pages > 0 {
				putIt(t, "a page", p, m, 2, 4, page(4))
			}
			refIt(t, "so many", p, m, 2, count-1)

			refs(t, "to -1", p, 2, -count-1, 0, api.ErrInval)
			refs(t, "to 1000001", p, 2, most-count+1, 0, api.ErrInval)
			holds(t, "errors", p, m)

			refIt(t, "to 1000000", p, m, 2, most-count)
			refs(t, "one more", p, 2, 1, 0, api.ErrInval)
			holds(t, "to 1000000", p, m)

			refIt(t, "back", p, m, 2, count-most)
			holds(t, "back", p, m)

			refIt(t, "to 0", p, m, 2, -count)
			holds(t, "to 0", p, m)
			e := api.ErrInval // of one that stays, or ErrNone of one that is gone
			if pages == 0 {
				e = api.ErrNone
			}
			for _, by := range []int{-1, -count, most + 1} {
				refs(t, "from 0", p, 2, by, 0, e)
			}
			holds(t, "from 0", p, m)
		}
	}
}

func TestRefIsOfWholeNumbers(t *testing.T) { // P14.1, R6
	for _, count := range []int{0, 1, 2, 77, most - 1, most} {
		p, m := made(t, 1, 5)
		putIt(t, "a page", p, m, 1, 0, page(1))
		refIt(t, "so many", p, m, 1, count-1)
		for _, by := range append(far(), -count-1, most-count+1, -most-1, most, most+1, math.MaxInt-count, math.MinInt+count) {
			if by >= -count && by <= most-count {
				continue
			}
			refs(t, "no number runs over", p, 1, by, 0, api.ErrInval)
			holds(t, "no number runs over", p, m)
		}
	}
}

func TestRefToZero(t *testing.T) { // P14.1, P14.2, P14.3
	p, m := made(t, 3, 3, 4, 0)
	putIt(t, "pages", p, m, 1, 0, page(1))
	putIt(t, "pages", p, m, 3, 9, page(2))
	for range 2 {
		for _, id := range []int{1, 3} {
			refIt(t, "it has pages, and stays", p, m, id, -1)
			refIt(t, "it has no Refs", p, m, id, 0)
			holds(t, "no Refs", p, m)
			putIt(t, "without Refs", p, m, id, 5, page(5))
			drops(t, "without Refs", p, id, 6, false)
			dropIt(t, "not the last one", p, m, id, 5)
			holds(t, "no Refs", p, m)
			refIt(t, "again", p, m, id, 1)
		}
		holds(t, "again", p, m)
	}
	refIt(t, "it has none, and is gone", p, m, 2, -1)
	holds(t, "it has none, and is gone", p, m)
	refs(t, "it is gone", p, 2, 1, 0, api.ErrNone)
	puts(t, "it is gone", p, 2, 0, page(1), api.ErrNone)
	drops(t, "it is gone", p, 2, 0, false)
	holds(t, "it is gone", p, m)
}

func TestCallsForNone(t *testing.T) { // P14.1, P14.2, R2: ErrNone is ahead of ErrInval
	p, m := made(t, 9, 1, 2, 3, 4)
	goes(t, p, m, 2)
	goes(t, p, m, 4)
	for _, id := range append(noObject(9), 2, 4, 5, 9) {
		for _, n := range anyNumber() {
			refs(t, "none", p, id, n, 0, api.ErrNone)
			puts(t, "none", p, id, n, page(1), api.ErrNone)
			drops(t, "none", p, id, n, false)
		}
	}
	holds(t, "none", p, m)
	full(t, "none", p, m)
}

func TestCallsOfAPoolWithoutRoom(t *testing.T) { // P14.1, P14.2: it was made
	p, m := made(t, 0)
	for _, n := range anyNumber() {
		refs(t, "no room", p, n, 1, 0, api.ErrNone)
		puts(t, "no room", p, n, 1, page(1), api.ErrNone)
		drops(t, "no room", p, n, 1, false)
		if n >= 0 {
			makes(t, "no room", p, n, 0, api.ErrNoMem)
		}
	}
	holds(t, "no room", p, m)
}

func TestPutAndGet(t *testing.T) { // P14.1, P14.2
	p, m := made(t, 4, 1, 0, 3)
	for _, id := range []int{1, 3} {
		for _, index := range []int{0, 1, 7, maxPages - 2, maxPages - 1} {
			putIt(t, "Put", p, m, id, index, page(10*id+index))
			holds(t, "Put", p, m)
		}
		for _, index := range []int{0, 7, maxPages - 1} {
			putIt(t, "over one that is there", p, m, id, index, page(99))
			holds(t, "over one that is there", p, m)
		}
	}
	for _, n := range anyNumber() { // a page's fields are any numbers
		putIt(t, "any numbers", p, m, 1, 4, object.Page{Frame: n, Slot: -1, Dirty: true})
		putIt(t, "any numbers", p, m, 1, 5, object.Page{Frame: 3, Slot: n})
		has(t, "any numbers", p, 1, m.things[1])
	}
	holds(t, "any numbers", p, m)
}

func TestPutOfAPageOfZeros(t *testing.T) { // P14.2, P14.3: it is a page as any other
	p, m := made(t, 2, 6)
	putIt(t, "zeros", p, m, 1, 2, object.Page{})
	putIt(t, "over another", p, m, 1, 3, page(3))
	putIt(t, "over another", p, m, 1, 3, object.Page{})
	holds(t, "zeros", p, m)
	refIt(t, "it stays, by these pages", p, m, 1, -1)
	dropIt(t, "one is left", p, m, 1, 2)
	holds(t, "one is left", p, m)
	dropIt(t, "none is left", p, m, 1, 3)
	holds(t, "none is left", p, m)
}

func TestPutThatMayNotBe(t *testing.T) { // P14.2, R2
	p, m := made(t, 3, 6, 7)
	putIt(t, "a page", p, m, 1, 2, page(2))
	refIt(t, "no Refs", p, m, 1, -1)
	for _, index := range noIndex() {
		for _, id := range []int{1, 2} {
			puts(t, "no index", p, id, index, page(1), api.ErrInval)
			puts(t, "no index", p, id, index, object.Page{}, api.ErrInval)
			drops(t, "no index", p, id, index, false)
		}
		puts(t, "none, and no index", p, 3, index, page(1), api.ErrNone)
	}
	holds(t, "no index", p, m)
}

func TestDrop(t *testing.T) { // P14.2, P14.3
	p, m := made(t, 3, 6, 7, 0)
	for _, index := range []int{0, 3, 4, maxPages - 1} {
		putIt(t, "pages", p, m, 1, index, page(index))
		putIt(t, "pages", p, m, 3, index, page(index+1))
	}
	for _, index := range []int{1, 2, 5, maxPages - 2, -1, maxPages} {
		drops(t, "there is none", p, 1, index, false)
	}
	holds(t, "there is none", p, m)
	for _, index := range []int{3, maxPages - 1, 0, 4} {
		dropIt(t, "Drop", p, m, 1, index)
		drops(t, "twice", p, 1, index, false)
		holds(t, "Drop", p, m)
	}
	drops(t, "no page any more", p, 1, 3, false)
	holds(t, "it has Refs, and stays", p, m)
	putIt(t, "again", p, m, 1, 3, page(8))
	holds(t, "again", p, m)
}

func TestDropOfTheLastPage(t *testing.T) { // P14.2, P14.3
	for _, index := range []int{0, 5, maxPages - 1} {
		p, m := made(t, 2, 6, 0)
		for _, id := range []int{1, 2} {
			putIt(t, "a page", p, m, id, index, page(1))
			dropIt(t, "it has Refs, and stays", p, m, id, index)
			holds(t, "it has Refs, and stays", p, m)
			putIt(t, "a page", p, m, id, index, page(1))
			refIt(t, "no Refs", p, m, id, -1)
			drops(t, "another page", p, id, 6, false)
			holds(t, "no Refs", p, m)
			dropIt(t, "gone", p, m, id, index)
			drops(t, "gone", p, id, index, false)
			holds(t, "gone", p, m)
		}
		makeIt(t, "its number and its file are free", p, m, 6)
		full(t, "its number and its file are free", p, m)
	}
}

func TestWhatIsInOneObjectIsInNoOther(t *testing.T) { // P14.1, P14.2
	p, m := made(t, 5, 1, 0, 3, 0)
	for id := 1; id <= 4; id++ {
		for k := range 4 {
			putIt(t, "the same indexes", p, m, id, k, page(10*id+k))
			holds(t, "the same indexes", p, m)
		}
	}
	dropIt(t, "one of them", p, m, 2, 1)
	holds(t, "one of them", p, m)
	refIt(t, "one of them", p, m, 3, 7)
	holds(t, "one of them", p, m)
	goes(t, p, m, 4)
	holds(t, "one of them", p, m)
}

func TestPages(t *testing.T) { // P14.2
	ends := append(noIndex(), 0, 1, 2, 3, 4, 5, 7, 8, 9, 100, maxPages-2, maxPages-1)
	all := [][]int{{}, {0}, {maxPages - 1}, {0, maxPages - 1}, {3, 4, 8}, {8, 4, 3, 0, 100, 7}}
	for _, indexes := range all {
		p, m := made(t, 3, 6, 0, 7)
		putIt(t, "another object", p, m, 1, 4, page(77))
		for k, index := range indexes {
			putIt(t, "pages", p, m, 2, index, page(k))
		}
		for _, lo := range ends {
			for _, hi := range ends {
				want := m.things[2].pairs(lo, hi)
				if list := collect(p.Pages(2, lo, hi)); !slices.Equal(list, want) {
					t.Fatalf("Pages(2, %d, %d): %v, want %v", lo, hi, list, want)
				}
				if list := collect(p.Pages(3, lo, hi)); len(list) != 0 {
					t.Fatalf("Pages(3, %d, %d): %v, want nothing", lo, hi, list)
				}
			}
		}
	}
}

func TestPagesRiseWhateverTheOrderOfThePuts(t *testing.T) { // P14.2, R4
	orders([]int{0, 1, 5, 6, 300, maxPages - 1}, func(order []int) {
		p, m := made(t, 1, 6)
		for _, index := range order {
			putIt(t, "Puts", p, m, 1, index, page(index))
		}
		if list := collect(p.Pages(1, 0, maxPages)); !slices.Equal(list, m.things[1].pairs(0, maxPages)) {
			t.Fatalf("put in order %v: %v", order, list)
		}
	})
}

func TestPagesOfAllThereMayBe(t *testing.T) { // P14.2
	p, m := made(t, 1, 6)
	for k := range maxPages {
		index := (k*1657 + 11) % maxPages // an odd factor: each index once
		putIt(t, "all", p, m, 1, index, page(index))
	}
	has(t, "all", p, 1, m.things[1])
	if list := collect(p.Pages(1, math.MinInt, math.MaxInt)); len(list) != maxPages {
		t.Errorf("all: %d, want %d", len(list), maxPages)
	}
	if list := collect(p.Pages(1, 1000, 1100)); !slices.Equal(list, m.things[1].pairs(1000, 1100)) {
		t.Errorf("some: %v", list)
	}
	goes(t, p, m, 1)
	holds(t, "all are gone", p, m)
}

func TestPagesAreLeftEarlyGoneOverAgainAndNested(t *testing.T) { // P14.2, R3
	p, m := made(t, 1, 6)
	for _, index := range []int{9, 2, 40, 3} {
		putIt(t, "pages", p, m, 1, index, page(index))
	}
	want := m.things[1].pairs(0, maxPages)
	seq := p.Pages(1, 0, maxPages)
	for k := range want {
		var list []pair
		for index, x := range seq {
			list = append(list, pair{index, x})
			if len(list) == k+1 {
				break
			}
		}
		if !slices.Equal(list, want[:k+1]) {
			t.Errorf("left early: %v, want %v", list, want[:k+1])
		}
	}
	for range 2 {
		if list := collect(seq); !slices.Equal(list, want) {
			t.Errorf("again: %v, want %v", list, want)
		}
	}
	var outer, inner []pair
	for index, x := range seq {
		outer = append(outer, pair{index, x})
		inner = append(inner, collect(seq)...)
	}
	if !slices.Equal(outer, want) || !slices.Equal(inner, slices.Repeat(want, len(want))) {
		t.Errorf("nested: %v, %v", outer, inner)
	}
	holds(t, "nothing has changed", p, m)
}

func TestPagesAreAsTheyWereWhenTheyWereAskedFor(t *testing.T) { // P14.2, R3
	p, m := made(t, 1, 6)
	for _, index := range []int{2, 4, 6} {
		putIt(t, "pages", p, m, 1, index, page(index))
	}
	seq, want := p.Pages(1, 0, maxPages), m.things[1].pairs(0, maxPages)
	none, seqOfNone := p.Pages(2, 0, maxPages), p.Pages(1, 7, 9)
	still := func(what string) {
		t.Helper()
		if list := collect(seq); !slices.Equal(list, want) {
			t.Errorf("%s: %v, want %v", what, list, want)
		}
		if list := append(collect(none), collect(seqOfNone)...); len(list) != 0 {
			t.Errorf("%s: %v, want nothing", what, list)
		}
	}
	putIt(t, "another page", p, m, 1, 4, page(99))
	still("another page")
	putIt(t, "one more", p, m, 1, 7, page(7))
	still("one more")
	dropIt(t, "one less", p, m, 1, 2)
	still("one less")
	seen := 0
	for index := range seq { // it is changed while it is gone over
		if _, ok := p.Get(1, index); ok {
			dropIt(t, "while", p, m, 1, index)
		}
		putIt(t, "while", p, m, 1, index+1, page(5))
		seen++
	}
	if seen != len(want) {
		t.Errorf("while it is gone over: %d, want %d", seen, len(want))
	}
	goes(t, p, m, 1)
	still("gone")
	makeIt(t, "another object", p, m, 0)
	putIt(t, "another object", p, m, 1, 4, page(50))
	still("another object")
	holds(t, "at the end", p, m)
}

func TestIdsAreTheCallers(t *testing.T) { // P14.1, R3
	for _, n := range []int{1, 3, 70} {
		p, m := made(t, n, make([]int, n)...)
		a, b := p.Ids(), p.Ids()
		if slices.ContainsFunc(a[len(a):cap(a)], func(id int) bool { return id != 0 }) {
			t.Errorf("spare room: %v", a[:cap(a)])
		}
		a = a[:cap(a)]
		for i := range a {
			a[i] = 99
		}
		_ = append(a, 98)
		holds(t, "a list that was changed", p, m)
		want := m.ids()
		if !slices.Equal(b, want) {
			t.Errorf("another list: %v", b)
		}
		goes(t, p, m, 1)
		if !slices.Equal(b, want) {
			t.Errorf("a list that was told ahead: %v, want %v", b, want)
		}
		full(t, "behind that", p, m)
	}
}

// dice tells numbers that look like any.
type dice uint64

func (d *dice) below(n int) int {
	*d = *d*6364136223846793005 + 1442695040888963407
	return int(uint64(*d>>33) % uint64(n))
}

// step does one thing with a pool and its model.
func step(t *testing.T, r *dice, p *object.Pool, m *model) {
	t.Helper()
	const what = "a long run"
	id, index := r.below(m.room+3)-1, r.below(12)-2
	o := m.things[id]
	switch kind := r.below(5); {
	case kind == 0:
		file := r.below(8) - 1
		switch {
		case file < 0:
			makes(t, what, p, file, 0, api.ErrInval)
		case m.of(file) != 0:
			makes(t, what, p, file, 0, api.ErrBusy)
		case len(m.things) == m.room:
			makes(t, what, p, file, 0, api.ErrNoMem)
		default:
			makeIt(t, what, p, m, file)
		}
	case kind == 1 && o == nil:
		refs(t, what, p, id, r.below(3)-1, 0, api.ErrNone)
	case kind == 1:
		by := r.below(5) - 3
		if o.refs+by < 0 {
			refs(t, what, p, id, by, 0, api.ErrInval)
			return
		}
		refIt(t, what, p, m, id, by)
	case kind == 2:
		x := object.Page{Frame: r.below(3), Slot: r.below(3), Dirty: r.below(2) == 0}
		switch {
		case o == nil:
			puts(t, what, p, id, index, x, api.ErrNone)
		case index < 0:
			puts(t, what, p, id, index, x, api.ErrInval)
		default:
			putIt(t, what, p, m, id, index, x)
		}
	default:
		if o == nil {
			drops(t, what, p, id, index, false)
			return
		}
		if _, ok := o.pages[index]; !ok {
			drops(t, what, p, id, index, false)
			return
		}
		dropIt(t, what, p, m, id, index)
	}
}

func TestAgainstAModel(t *testing.T) { // P14.1, P14.2, P14.3
	for _, room := range []int{1, 2, 3, 7, 20} {
		r := dice(room)
		p, m := made(t, room)
		for range 3000 {
			step(t, &r, p, m)
			holds(t, "a long run", p, m)
			for id, o := range m.things {
				if o.refs == 0 && len(o.pages) == 0 {
					t.Fatalf("object %d has neither Refs nor pages", id)
				}
			}
		}
		for _, id := range m.ids() {
			goes(t, p, m, id)
		}
		full(t, "a long run", p, m)
	}
}

func TestPoolsThatNoCallMade(t *testing.T) { // R5, and R2: ErrMade is the first error
	for name, p := range map[string]*object.Pool{"nil": nil, "a zero value": {}, "what New answered": object.New(-1)} {
		for range 2 {
			for _, n := range anyNumber() {
				makes(t, name, p, n, 0, api.ErrMade)
				of(t, name, p, n, 0)
				refs(t, name, p, n, 1, 0, api.ErrMade)
				refs(t, name, p, 1, n, 0, api.ErrMade)
				puts(t, name, p, n, 1, page(1), api.ErrMade)
				puts(t, name, p, 1, n, page(1), api.ErrMade)
				drops(t, name, p, n, 1, false)
				drops(t, name, p, 1, n, false)
				hasNot(t, name, p, n, api.ErrMade)
			}
			if ids := p.Ids(); len(ids) != 0 {
				t.Errorf("%s: Ids: %v, want none", name, ids)
			}
		}
	}
}
