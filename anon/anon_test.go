package anon_test

import (
	"math"
	"slices"
	"testing"

	"pantry/anon"
	"pantry/api"
)

const (
	maxItems = 4096
	most     = 1000000 // Refs
)

// far has numbers that are nowhere near any anon's number, number of anons or Refs.
func far() []int {
	return []int{-2, -maxItems, -most - 2, most + 2, 1 << 31, 1 << 32, 1<<32 + 1, -1 << 32, 1 - 1<<32, 1 << 62, -1 << 62, math.MinInt, math.MinInt + 1, math.MaxInt, math.MaxInt - 1}
}

// anyNumber has numbers of whatever kind.
func anyNumber() []int { return append(far(), -1, 0, 1, 2, 255, 256) }

// noAnon has numbers that none has in a pool with room for so many.
func noAnon(room int) []int { return append(far(), -1, 0, room+1, room+2, maxItems+1) }

// model is what a pool has: the anons by their numbers, and for how many there is room.
type model struct {
	room  int
	anons map[int]anon.Anon
}

// ids are the numbers of a model, rising.
func (m *model) ids() []int {
	var list []int
	for id := 1; id <= m.room; id++ {
		if _, ok := m.anons[id]; ok {
			list = append(list, id)
		}
	}
	return list
}

// lowest is the lowest number from 1 on that none has.
func (m *model) lowest() int {
	id := 1
	for m.anons[id] != (anon.Anon{}) {
		id++
	}
	return id
}

// holds asks everything of a pool, which is to be as a model.
func holds(t *testing.T, what string, p *anon.Pool, m *model) {
	t.Helper()
	sum := 0
	for id := 1; id <= m.room; id++ {
		want, there := m.anons[id]
		if a, ok := p.Get(id); a != want || ok != there {
			t.Fatalf("%s: Get(%d): %v, %v, want %v, %v", what, id, a, ok, want, there)
		}
		sum += want.Refs
	}
	for _, id := range noAnon(m.room) {
		if a, ok := p.Get(id); a != (anon.Anon{}) || ok {
			t.Fatalf("%s: Get(%d): %v, %v, want none", what, id, a, ok)
		}
	}
	if n := p.Len(); n != len(m.anons) {
		t.Fatalf("%s: Len: %d, want %d", what, n, len(m.anons))
	}
	if ids := p.Ids(); !slices.Equal(ids, m.ids()) {
		t.Fatalf("%s: Ids: %v, want %v", what, ids, m.ids())
	}
	if n := p.Sum(); n != sum {
		t.Fatalf("%s: Sum: %d, want %d", what, n, sum)
	}
}

// makes asks Make for its answer.
func makes(t *testing.T, what string, p *anon.Pool, frame, want int, e api.Errno) {
	t.Helper()
	if id, err := p.Make(frame); id != want || err != e {
		t.Fatalf("%s: Make(%d): %d, %v, want %d, %v", what, frame, id, err, want, e)
	}
}

// refs asks Ref for its answer.
func refs(t *testing.T, what string, p *anon.Pool, id, by int, want anon.Anon, e api.Errno) {
	t.Helper()
	if a, err := p.Ref(id, by); a != want || err != e {
		t.Fatalf("%s: Ref(%d, %d): %v, %v, want %v, %v", what, id, by, a, err, want, e)
	}
}

// puts asks Put for its answer.
func puts(t *testing.T, what string, p *anon.Pool, id, frame, slot int, e api.Errno) {
	t.Helper()
	if err := p.Put(id, frame, slot); err != e {
		t.Fatalf("%s: Put(%d, %d, %d): %v, want %v", what, id, frame, slot, err, e)
	}
}

// tells asks Get for an anon that is there.
func tells(t *testing.T, what string, p *anon.Pool, id int, want anon.Anon) {
	t.Helper()
	if a, ok := p.Get(id); a != want || !ok {
		t.Fatalf("%s: Get(%d): %v, %v, want %v", what, id, a, ok, want)
	}
}

// goes makes an anon go that is held so often.
func goes(t *testing.T, p *anon.Pool, m *model, id int) {
	t.Helper()
	want := m.anons[id]
	by := -want.Refs
	want.Refs = 0
	refs(t, "goes", p, id, by, want, api.OK)
	delete(m.anons, id)
}

// made has so many anons of frames 101, 102, .., and room for so many.
func made(t *testing.T, n, room int) (*anon.Pool, *model) {
	t.Helper()
	p, m := anon.New(room), &model{room, map[int]anon.Anon{}}
	if p == nil {
		t.Fatalf("New(%d): nil", room)
	}
	for id := 1; id <= n; id++ {
		makes(t, "made", p, 100+id, id, api.OK)
		m.anons[id] = anon.Anon{Refs: 1, Frame: 100 + id, Slot: -1}
	}
	return p, m
}

// full asks that all numbers that are free are had in order, and that none is behind them.
func full(t *testing.T, what string, p *anon.Pool, m *model) {
	t.Helper()
	for len(m.anons) < m.room {
		id := m.lowest()
		makes(t, what, p, 500+id, id, api.OK)
		m.anons[id] = anon.Anon{Refs: 1, Frame: 500 + id, Slot: -1}
	}
	makes(t, what, p, 1, 0, api.ErrNoMem)
	holds(t, what, p, m)
}

func TestNew(t *testing.T) { // P12.1
	for _, n := range []int{0, 1, 2, 3, 9, 100, maxItems - 1, maxItems} {
		p, m := made(t, 0, n)
		holds(t, "New", p, m)
		full(t, "New", p, m)
	}
	for _, n := range append(far(), -1, maxItems+1, maxItems+2, 2*maxItems) {
		if anon.New(n) != nil {
			t.Errorf("New(%d): not nil", n)
		}
	}
}

func TestNewIsApart(t *testing.T) { // P12.1
	a, am := made(t, 2, 3)
	b, bm := made(t, 0, 3)
	holds(t, "the one", a, am)
	holds(t, "the other", b, bm)
	makes(t, "the other", b, 7, 1, api.OK)
	puts(t, "the other", b, 1, 8, 9, api.OK)
	puts(t, "the other", b, 2, 8, 9, api.ErrNone)
	refs(t, "the other", b, 1, 4, anon.Anon{Refs: 5, Frame: 8, Slot: 9}, api.OK)
	holds(t, "the one", a, am)
	goes(t, a, am, 1)
	tells(t, "the other", b, 1, anon.Anon{Refs: 5, Frame: 8, Slot: 9})
	makes(t, "the other", b, 7, 2, api.OK)
	holds(t, "the one", a, am)
}

func TestChaptersExample(t *testing.T) { // P12.1, P12.2, P12.3
	p := anon.New(9)
	makes(t, "the example", p, 5, 1, api.OK)
	makes(t, "the example", p, 6, 2, api.OK)
	refs(t, "the example", p, 1, -1, anon.Anon{Frame: 5, Slot: -1}, api.OK)
	makes(t, "the example", p, 7, 1, api.OK)
	holds(t, "the example", p, &model{9, map[int]anon.Anon{1: {Refs: 1, Frame: 7, Slot: -1}, 2: {Refs: 1, Frame: 6, Slot: -1}}})
}

func TestMakeUntilThereAreMost(t *testing.T) { // P12.1
	for _, n := range []int{0, 1, 2, 5, 64} {
		p, m := made(t, 0, n)
		for id := 1; id <= n; id++ {
			makes(t, "one more", p, id, id, api.OK)
			m.anons[id] = anon.Anon{Refs: 1, Frame: id, Slot: -1}
			holds(t, "one more", p, m)
		}
		for _, frame := range anyNumber() {
			makes(t, "no room", p, frame, 0, api.ErrNoMem)
		}
		holds(t, "no room", p, m)
	}
	p, m := made(t, maxItems, maxItems)
	holds(t, "as many as there may be", p, m)
	makes(t, "as many as there may be", p, 5, 0, api.ErrNoMem)
	goes(t, p, m, maxItems)
	goes(t, p, m, 2048)
	full(t, "as many as there may be", p, m)
}

func TestMakeOfAnyFrame(t *testing.T) { // P12.1
	p := anon.New(100)
	for i, frame := range anyNumber() {
		makes(t, "any frame", p, frame, i+1, api.OK)
	}
	for i, frame := range anyNumber() {
		tells(t, "any frame", p, i+1, anon.Anon{Refs: 1, Frame: frame, Slot: -1})
		refs(t, "any frame", p, i+1, -1, anon.Anon{Frame: frame, Slot: -1}, api.OK)
	}
	if p.Len() != 0 {
		t.Errorf("Len: %d, want 0", p.Len())
	}
}

func TestMakeTakesTheLowest(t *testing.T) { // P12.1, P12.3
	for id := 1; id <= 9; id++ { // the first one, the last one and those between
		for _, room := range []int{9, 10, 20} {
			p, m := made(t, 9, room)
			goes(t, p, m, id)
			holds(t, "one is gone", p, m)
			makes(t, "one is gone", p, 77, id, api.OK)
			m.anons[id] = anon.Anon{Refs: 1, Frame: 77, Slot: -1}
			holds(t, "it is there again", p, m)
			full(t, "it is there again", p, m)
		}
	}
}

// orders tells all orders of a list.
func orders(list []int, tell func([]int)) {
	var from func(k int)
	from = func(k int) {
		if k == len(list) {
			tell(slices.Clone(list))
			return
		}
		for i := k; i < len(list); i++ {
			list[k], list[i] = list[i], list[k]
			from(k + 1)
			list[k], list[i] = list[i], list[k]
		}
	}
	from(0)
}

func TestMakeTakesTheLowestInWhateverOrderTheyGo(t *testing.T) { // P12.1, P12.3
	for _, ids := range [][]int{{1, 2}, {2, 5}, {1, 4, 6}, {3, 4, 5, 6}, {1, 2, 3, 4, 5, 6}, {1, 2, 3, 5, 6, 8}} {
		orders(ids, func(order []int) {
			for _, room := range []int{8, 9} {
				p, m := made(t, 8, room)
				for _, id := range order {
					goes(t, p, m, id)
				}
				holds(t, "several are gone", p, m)
				full(t, "several are gone", p, m)
			}
		})
	}
}

func TestMakeTakesTheLowestOfMany(t *testing.T) { // P12.1, P12.3
	const n = 500
	for seed := range 5 {
		r := dice(seed)
		p, m := made(t, n, n)
		for range 4 {
			ids := m.ids()
			for range n / 2 {
				k := r.below(len(ids))
				goes(t, p, m, ids[k])
				ids = slices.Delete(ids, k, k+1)
			}
			for range n / 4 { // some of them only: the others are free for long
				id := m.lowest()
				makes(t, "many", p, 9, id, api.OK)
				m.anons[id] = anon.Anon{Refs: 1, Frame: 9, Slot: -1}
			}
			holds(t, "many", p, m)
			full(t, "many", p, m)
		}
		for len(m.anons) > 0 {
			ids := m.ids()
			goes(t, p, m, ids[r.below(len(ids))])
		}
		holds(t, "all are gone", p, m)
		full(t, "all are gone", p, m)
	}
}

func TestRoomOfOne(t *testing.T) { // P12.1, P12.3
	p, m := made(t, 0, 1)
	for i := range 5 {
		makes(t, "one", p, i, 1, api.OK)
		m.anons[1] = anon.Anon{Refs: 1, Frame: i, Slot: -1}
		makes(t, "no room", p, i, 0, api.ErrNoMem)
		holds(t, "one", p, m)
		goes(t, p, m, 1)
		holds(t, "none", p, m)
	}
}

func TestANewOneHasNothingOfTheOneAhead(t *testing.T) { // P12.1, P12.3
	p, m := made(t, 3, 3)
	puts(t, "the one ahead", p, 2, 40, 41, api.OK)
	refs(t, "the one ahead", p, 2, 6, anon.Anon{Refs: 7, Frame: 40, Slot: 41}, api.OK)
	refs(t, "the one ahead", p, 2, -7, anon.Anon{Frame: 40, Slot: 41}, api.OK)
	makes(t, "the new one", p, -3, 2, api.OK)
	m.anons[2] = anon.Anon{Refs: 1, Frame: -3, Slot: -1}
	holds(t, "the new one", p, m)
}

func TestGetOfNone(t *testing.T) { // P12.1
	none := func(what string, p *anon.Pool, id int) {
		t.Helper()
		if a, ok := p.Get(id); a != (anon.Anon{}) || ok {
			t.Errorf("%s: Get(%d): %v, %v, want none", what, id, a, ok)
		}
	}
	p, m := made(t, 3, 9)
	for _, id := range append(noAnon(9), 4, 5, 9) {
		none("a number that was never had", p, id)
	}
	goes(t, p, m, 2)
	none("one that is gone", p, 2)
	goes(t, p, m, 3)
	none("one that is gone", p, 3)
	tells(t, "the one that is there", p, 1, anon.Anon{Refs: 1, Frame: 101, Slot: -1})
	makes(t, "again", p, 8, 2, api.OK)
	tells(t, "again", p, 2, anon.Anon{Refs: 1, Frame: 8, Slot: -1})
	none("still gone", p, 3)
}

func TestGetIsTheCallers(t *testing.T) { // P12.1, R3
	p, m := made(t, 2, 2)
	a, _ := p.Get(1)
	a.Refs, a.Frame, a.Slot = 0, 77, 78
	b, _ := p.Ref(2, 0)
	b.Refs, b.Frame, b.Slot = 0, 77, 78
	holds(t, "what was told is changed", p, m)
	a, _ = p.Get(1)
	puts(t, "behind it", p, 1, 5, 6, api.OK)
	if a != m.anons[1] {
		t.Errorf("what was told ahead: %v, want %v", a, m.anons[1])
	}
}

func TestLenIdsSumAsAnonsComeAndGo(t *testing.T) { // P12.1
	p := anon.New(5)
	now := func(what string, sum int, ids ...int) {
		t.Helper()
		if p.Len() != len(ids) || p.Sum() != sum || !slices.Equal(p.Ids(), ids) {
			t.Errorf("%s: Len %d, Sum %d, Ids %v, want %d, %d, %v", what, p.Len(), p.Sum(), p.Ids(), len(ids), sum, ids)
		}
	}
	now("none", 0)
	p.Make(1)
	now("one", 1, 1)
	p.Make(1)
	p.Make(1)
	now("three", 3, 1, 2, 3)
	p.Ref(2, 10)
	now("one is held often", 13, 1, 2, 3)
	p.Ref(1, -1)
	now("the first is gone", 12, 2, 3)
	p.Ref(3, -2)
	p.Ref(3, most)
	p.Ref(1, 1)
	p.Put(2, 1, 1)
	now("errors, and Put", 12, 2, 3)
	p.Make(1)
	now("a number is had again", 13, 1, 2, 3)
	p.Ref(2, -11)
	now("the one in the middle is gone", 2, 1, 3)
	p.Ref(3, -1)
	p.Ref(1, -1)
	now("none any more", 0)
}

func TestSumOfAsMuchAsThereMayBe(t *testing.T) { // P12.1
	p, m := made(t, maxItems, maxItems)
	for id := 1; id <= maxItems; id++ {
		want := anon.Anon{Refs: most, Frame: 100 + id, Slot: -1}
		refs(t, "as much as there may be", p, id, most-1, want, api.OK)
		m.anons[id] = want
	}
	holds(t, "as much as there may be", p, m)
	if n := p.Sum(); n != maxItems*most {
		t.Errorf("Sum: %d, want %d", n, maxItems*most)
	}
}

func TestIdsAreTheCallers(t *testing.T) { // P12.1, R3
	for _, n := range []int{1, 3, 70, 1000} {
		p, m := made(t, n, n)
		a, b := p.Ids(), p.Ids()
		if slices.ContainsFunc(a[len(a):cap(a)], func(id int) bool { return id != 0 }) {
			t.Errorf("spare room: %v", a[:cap(a)])
		}
		a = a[:cap(a)]
		for i := range a {
			a[i] = 99
		}
		_ = append(a, 98)
		holds(t, "a list that was changed", p, m)
		if !slices.Equal(b, m.ids()) {
			t.Errorf("another list: %v", b)
		}
		want := m.ids()
		goes(t, p, m, 1)
		if !slices.Equal(b, want) {
			t.Errorf("a list that was told ahead: %v, want %v", b, want)
		}
		full(t, "behind that", p, m)
	}
}

func TestRef(t *testing.T) { // P12.2
	p, m := made(t, 3, 3)
	puts(t, "Ref", p, 2, 7, 8, api.OK)
	count := 1
	for _, by := range []int{0, 1, 0, 5, -1, -2, 300, -303, 1, most - 2, 0, -1, 1, -most + 1, 0, most - 1, -most + 2} {
		count += by
		m.anons[2] = anon.Anon{Refs: count, Frame: 7, Slot: 8}
		refs(t, "Ref", p, 2, by, m.anons[2], api.OK)
		holds(t, "Ref", p, m)
	}
}

func TestRefToTheEnds(t *testing.T) { // P12.2
	for _, count := range []int{1, 2, 3, 500, most / 2, most - 1, most} {
		p, m := made(t, 3, 3)
		m.anons[2] = anon.Anon{Refs: count, Frame: 102, Slot: -1}
		refs(t, "so many", p, 2, count-1, m.anons[2], api.OK)

		refs(t, "to -1", p, 2, -count-1, anon.Anon{}, api.ErrInval)
		refs(t, "to 1000001", p, 2, most-count+1, anon.Anon{}, api.ErrInval)
		holds(t, "errors", p, m)

		m.anons[2] = anon.Anon{Refs: most, Frame: 102, Slot: -1}
		refs(t, "to 1000000", p, 2, most-count, m.anons[2], api.OK)
		refs(t, "one more", p, 2, 1, anon.Anon{}, api.ErrInval)
		holds(t, "to 1000000", p, m)

		m.anons[2] = anon.Anon{Refs: count, Frame: 102, Slot: -1}
		refs(t, "back", p, 2, count-most, m.anons[2], api.OK)
		holds(t, "back", p, m)

		refs(t, "to 0", p, 2, -count, anon.Anon{Frame: 102, Slot: -1}, api.OK)
		delete(m.anons, 2)
		holds(t, "to 0", p, m)
		for _, by := range []int{0, 1, -1, count, -count} {
			refs(t, "it is gone", p, 2, by, anon.Anon{}, api.ErrNone)
		}
		holds(t, "it is gone", p, m)
	}
}

func TestRefIsOfWholeNumbers(t *testing.T) { // P12.2, R6
	for _, count := range []int{1, 2, 77, most - 1, most} {
		p, m := made(t, 1, 1)
		m.anons[1] = anon.Anon{Refs: count, Frame: 101, Slot: -1}
		refs(t, "so many", p, 1, count-1, m.anons[1], api.OK)
		for _, by := range append(far(), -count-1, most-count+1, -most-1, most, most+1, math.MaxInt-count, math.MaxInt-count+1, math.MinInt+count, math.MinInt+count-1) {
			if by >= -count && by <= most-count {
				continue
			}
			refs(t, "no number runs over", p, 1, by, anon.Anon{}, api.ErrInval)
			holds(t, "no number runs over", p, m)
		}
	}
}

func TestCallsForNone(t *testing.T) { // P12.2, R2: ErrNone is ahead of ErrInval
	p, m := made(t, 4, 9)
	goes(t, p, m, 2)
	goes(t, p, m, 4)
	for _, id := range append(noAnon(9), 2, 4, 5, 9) {
		for _, by := range append(anyNumber(), -most, most) {
			refs(t, "none", p, id, by, anon.Anon{}, api.ErrNone)
			puts(t, "none", p, id, by, -by, api.ErrNone)
		}
	}
	holds(t, "none", p, m)
	full(t, "none", p, m)
}

func TestCallsForAnyNumberOfAPoolWithoutRoom(t *testing.T) { // P12.1, P12.2: it was made
	p, m := made(t, 0, 0)
	for _, id := range anyNumber() {
		makes(t, "no room", p, id, 0, api.ErrNoMem)
		refs(t, "no room", p, id, 1, anon.Anon{}, api.ErrNone)
		puts(t, "no room", p, id, 1, 1, api.ErrNone)
	}
	holds(t, "no room", p, m)
}

func TestPut(t *testing.T) { // P12.2
	p, m := made(t, 5, 5)
	for id := 1; id <= 5; id++ {
		m.anons[id] = anon.Anon{Refs: 1 + id, Frame: 100 + id, Slot: -1}
		refs(t, "Put", p, id, id, m.anons[id], api.OK)
	}
	for _, id := range []int{1, 3, 5} {
		for _, frame := range anyNumber() {
			for _, slot := range anyNumber() {
				puts(t, "Put", p, id, frame, slot, api.OK)
				m.anons[id] = anon.Anon{Refs: 1 + id, Frame: frame, Slot: slot}
				tells(t, "Put", p, id, m.anons[id])
			}
		}
		holds(t, "Put", p, m)
	}
}

func TestPutOfTheSame(t *testing.T) { // P12.2: two anons may have one frame and one slot
	p, m := made(t, 3, 3)
	for id := 1; id <= 3; id++ {
		puts(t, "the same", p, id, 4, 5, api.OK)
		puts(t, "the same", p, id, 4, 5, api.OK)
		m.anons[id] = anon.Anon{Refs: 1, Frame: 4, Slot: 5}
	}
	holds(t, "the same", p, m)
	goes(t, p, m, 2)
	holds(t, "one of them is gone", p, m)
}

func TestANumberIsUsedAgainAsSoonAsNobodyHoldsIt(t *testing.T) { // P12.3
	p, m := made(t, 6, 7)
	refs(t, "twice", p, 3, 1, anon.Anon{Refs: 2, Frame: 103, Slot: -1}, api.OK)
	refs(t, "once", p, 3, -1, anon.Anon{Refs: 1, Frame: 103, Slot: -1}, api.OK)
	makes(t, "3 is held still", p, 20, 7, api.OK)
	m.anons[7] = anon.Anon{Refs: 1, Frame: 20, Slot: -1}
	makes(t, "no room", p, 20, 0, api.ErrNoMem)
	for range 3 {
		goes(t, p, m, 3)
		makes(t, "3 is free", p, 21, 3, api.OK)
		m.anons[3] = anon.Anon{Refs: 1, Frame: 21, Slot: -1}
		makes(t, "no room", p, 20, 0, api.ErrNoMem)
		holds(t, "3 is had again", p, m)
	}
}

// dice tells numbers that look like any.
type dice uint64

func (d *dice) below(n int) int {
	*d = *d*6364136223846793005 + 1442695040888963407
	return int(uint64(*d>>33) % uint64(n))
}

func TestAgainstAModel(t *testing.T) { // P12.1, P12.2, P12.3
	for _, room := range []int{1, 2, 3, 7, 40, 200} {
		r := dice(room)
		p, m := made(t, 0, room)
		sum := 0 // what was Made and Ref'd
		for range 4000 {
			id := r.below(room+3) - 1
			a, there := m.anons[id]
			switch r.below(4) {
			case 0:
				frame := r.below(256)
				if len(m.anons) == room {
					makes(t, "a long run", p, frame, 0, api.ErrNoMem)
					continue
				}
				low := m.lowest()
				makes(t, "a long run", p, frame, low, api.OK)
				m.anons[low] = anon.Anon{Refs: 1, Frame: frame, Slot: -1}
				sum++
			case 1:
				frame, slot := r.below(300)-20, r.below(300)-20
				if !there {
					puts(t, "a long run", p, id, frame, slot, api.ErrNone)
					continue
				}
				puts(t, "a long run", p, id, frame, slot, api.OK)
				a.Frame, a.Slot = frame, slot
				m.anons[id] = a
			default:
				by := r.below(6) - 3
				switch a.Refs += by; {
				case !there:
					refs(t, "a long run", p, id, by, anon.Anon{}, api.ErrNone)
					continue
				case a.Refs < 0:
					refs(t, "a long run", p, id, by, anon.Anon{}, api.ErrInval)
					continue
				}
				refs(t, "a long run", p, id, by, a, api.OK)
				sum += by
				if m.anons[id] = a; a.Refs == 0 {
					delete(m.anons, id)
				}
			}
			holds(t, "a long run", p, m)
			if p.Sum() != sum {
				t.Fatalf("Sum: %d, want %d", p.Sum(), sum)
			}
		}
		full(t, "a long run", p, m)
	}
}

func TestPoolsThatNoCallMade(t *testing.T) { // R5, and R2: ErrMade is the first error
	for name, p := range map[string]*anon.Pool{"nil": nil, "a zero value": {}, "what New answered": anon.New(-1)} {
		for range 2 {
			for _, n := range anyNumber() {
				makes(t, name, p, n, 0, api.ErrMade)
				refs(t, name, p, n, 0, anon.Anon{}, api.ErrMade)
				refs(t, name, p, n, 1, anon.Anon{}, api.ErrMade)
				refs(t, name, p, 1, n, anon.Anon{}, api.ErrMade)
				puts(t, name, p, n, 1, 1, api.ErrMade)
				puts(t, name, p, 1, n, n, api.ErrMade)
			}
			holds(t, name, p, &model{})
		}
	}
}
