package amap_test

import (
	"iter"
	"math"
	"slices"
	"testing"

	"pantry/amap"
	"pantry/api"
)

const (
	maxItems = 4096
	most     = 1000000 // of one slot's cover
)

// far has numbers that are nowhere near any amap's number, slot, or number of slots.
func far() []int {
	return []int{-2, -maxItems, 2*maxItems + 1, most + 2, 1 << 31, 1 << 32, 1<<32 + 1, -1 << 32, 1 - 1<<32, 1 << 62, -1 << 62, math.MinInt, math.MinInt + 1, math.MaxInt, math.MaxInt - 1}
}

// anyNumber has numbers of whatever kind.
func anyNumber() []int { return append(far(), -1, 0, 1, 2, 3, maxItems, maxItems+1) }

// past has numbers that are no slot of so many, nor the end of one.
func past(slots int) []int { return append(far(), -1, slots+1, slots+2) }

// noAmap has numbers that none has in a pool with room for so many.
func noAmap(room int) []int { return append(far(), -1, 0, room+1, room+2, maxItems+1) }

// table is what an amap has, slot by slot.
type table struct {
	cover, anons []int
}

// blank is a table of empty slots, each covered once.
func blank(slots int) *table {
	return &table{slices.Repeat([]int{1}, slots), make([]int, slots)}
}

// model is what a pool has: the tables by their numbers, and for how many there is room.
type model struct {
	room   int
	tables map[int]*table
}

// ids are the numbers of a model, rising.
func (m *model) ids() []int {
	var list []int
	for id := 1; id <= m.room; id++ {
		if m.tables[id] != nil {
			list = append(list, id)
		}
	}
	return list
}

// lowest is the lowest number from 1 on that none has.
func (m *model) lowest() int {
	id := 1
	for m.tables[id] != nil {
		id++
	}
	return id
}

// pair is a slot, and the anon in it.
type pair struct{ slot, anon int }

// collect has all that an iterator tells.
func collect(seq iter.Seq2[int, int]) []pair {
	var list []pair
	for slot, anon := range seq {
		list = append(list, pair{slot, anon})
	}
	return list
}

// used are the pairs of a list of anons.
func used(anons []int) []pair {
	var list []pair
	for slot, anon := range anons {
		if anon != 0 {
			list = append(list, pair{slot, anon})
		}
	}
	return list
}

// has asks whether an amap is as a table, in all its slots and beside them.
func has(t *testing.T, what string, p *amap.Pool, id int, want *table) {
	t.Helper()
	slots := len(want.anons)
	if n := p.Slots(id); n != slots {
		t.Fatalf("%s: Slots(%d): %d, want %d", what, id, n, slots)
	}
	for slot := range slots {
		if n := p.Get(id, slot); n != want.anons[slot] {
			t.Fatalf("%s: Get(%d, %d): %d, want %d", what, id, slot, n, want.anons[slot])
		}
		if n := p.Cover(id, slot); n != want.cover[slot] {
			t.Fatalf("%s: Cover(%d, %d): %d, want %d", what, id, slot, n, want.cover[slot])
		}
	}
	for _, slot := range append(past(slots), slots) {
		if slot >= 0 && slot < slots {
			continue
		}
		if g, c := p.Get(id, slot), p.Cover(id, slot); g != 0 || c != 0 {
			t.Fatalf("%s: Get, Cover(%d, %d): %d, %d, want 0, 0", what, id, slot, g, c)
		}
	}
	if list := collect(p.Used(id)); !slices.Equal(list, used(want.anons)) {
		t.Fatalf("%s: Used(%d): %v, want %v", what, id, list, used(want.anons))
	}
}

// hasNot asks whether there is no such amap.
func hasNot(t *testing.T, what string, p *amap.Pool, id int) {
	t.Helper()
	if n := p.Slots(id); n != 0 {
		t.Fatalf("%s: Slots(%d): %d, want 0", what, id, n)
	}
	for _, slot := range anyNumber() {
		if g, c := p.Get(id, slot), p.Cover(id, slot); g != 0 || c != 0 {
			t.Fatalf("%s: Get, Cover(%d, %d): %d, %d, want 0, 0", what, id, slot, g, c)
		}
	}
	if list := collect(p.Used(id)); len(list) != 0 {
		t.Fatalf("%s: Used(%d): %v, want nothing", what, id, list)
	}
}

// holds asks everything of a pool, which is to be as a model.
func holds(t *testing.T, what string, p *amap.Pool, m *model) {
	t.Helper()
	if ids := p.Ids(); !slices.Equal(ids, m.ids()) {
		t.Fatalf("%s: Ids: %v, want %v", what, ids, m.ids())
	}
	for id := 1; id <= m.room; id++ {
		if m.tables[id] != nil {
			has(t, what, p, id, m.tables[id])
		} else {
			hasNot(t, what, p, id)
		}
	}
	for _, id := range noAmap(m.room) {
		hasNot(t, what, p, id)
	}
}

// makes asks Make for its answer.
func makes(t *testing.T, what string, p *amap.Pool, slots, want int, e api.Errno) {
	t.Helper()
	if id, err := p.Make(slots); id != want || err != e {
		t.Fatalf("%s: Make(%d): %d, %v, want %d, %v", what, slots, id, err, want, e)
	}
}

// sets asks Set for its answer.
func sets(t *testing.T, what string, p *amap.Pool, id, slot, anon, want int, e api.Errno) {
	t.Helper()
	if was, err := p.Set(id, slot, anon); was != want || err != e {
		t.Fatalf("%s: Set(%d, %d, %d): %d, %v, want %d, %v", what, id, slot, anon, was, err, want, e)
	}
}

// covers asks Hold for its answer.
func covers(t *testing.T, what string, p *amap.Pool, id, lo, hi int, e api.Errno) {
	t.Helper()
	if err := p.Hold(id, lo, hi); err != e {
		t.Fatalf("%s: Hold(%d, %d, %d): %v, want %v", what, id, lo, hi, err, e)
	}
}

// drops asks Drop for its answer.
func drops(t *testing.T, what string, p *amap.Pool, id, lo, hi int, e api.Errno, anons ...int) {
	t.Helper()
	if list, err := p.Drop(id, lo, hi); !slices.Equal(list, anons) || err != e {
		t.Fatalf("%s: Drop(%d, %d, %d): %v, %v, want %v, %v", what, id, lo, hi, list, err, anons, e)
	}
}

// copies asks Copy for its answer.
func copies(t *testing.T, what string, p *amap.Pool, id, lo, hi, want int, e api.Errno, anons ...int) {
	t.Helper()
	if n, list, err := p.Copy(id, lo, hi); n != want || !slices.Equal(list, anons) || err != e {
		t.Fatalf("%s: Copy(%d, %d, %d): %d, %v, %v, want %d, %v, %v", what, id, lo, hi, n, list, err, want, anons, e)
	}
}

// goes makes an amap go that has no anon, and whose slots are covered once.
func goes(t *testing.T, p *amap.Pool, m *model, id int) {
	t.Helper()
	drops(t, "goes", p, id, 0, len(m.tables[id].anons), api.OK)
	delete(m.tables, id)
}

// made has so many amaps of 1, 2, 3, 1, .. slots, and room for so many.
func made(t *testing.T, n, room int) (*amap.Pool, *model) {
	t.Helper()
	p, m := amap.New(room), &model{room, map[int]*table{}}
	if p == nil {
		t.Fatalf("New(%d): nil", room)
	}
	for id := 1; id <= n; id++ {
		slots := (id-1)%3 + 1
		makes(t, "made", p, slots, id, api.OK)
		m.tables[id] = blank(slots)
	}
	return p, m
}

// one has an amap of number 1 with these anons, and room for so many. A slot of -1 is covered by none.
func one(t *testing.T, room int, anons ...int) (*amap.Pool, *model) {
	t.Helper()
	p, m := made(t, 0, room)
	makes(t, "one", p, len(anons), 1, api.OK)
	x := blank(len(anons))
	for slot, anon := range anons {
		if anon < 0 {
			drops(t, "one", p, 1, slot, slot+1, api.OK)
			x.cover[slot] = 0
			continue
		}
		sets(t, "one", p, 1, slot, anon, 0, api.OK)
		x.anons[slot] = anon
	}
	m.tables[1] = x
	return p, m
}

// full asks that all numbers that are free are had in order, and that none is behind them.
func full(t *testing.T, what string, p *amap.Pool, m *model) {
	t.Helper()
	for len(m.tables) < m.room {
		id := m.lowest()
		makes(t, what, p, 2, id, api.OK)
		m.tables[id] = blank(2)
	}
	makes(t, what, p, 1, 0, api.ErrNoMem)
	holds(t, what, p, m)
}

func TestNew(t *testing.T) { // P13.1
	for _, n := range []int{0, 1, 2, 9, maxItems - 1, maxItems} {
		p, m := made(t, 0, n)
		holds(t, "New", p, m)
		full(t, "New", p, m)
	}
	for _, n := range append(far(), -1, maxItems+1, maxItems+2) {
		if amap.New(n) != nil {
			t.Errorf("New(%d): not nil", n)
		}
	}
}

func TestNewIsApart(t *testing.T) { // P13.1
	a, am := one(t, 3, 7, 0, 8)
	b, bm := made(t, 0, 3)
	holds(t, "the other", b, bm)
	makes(t, "the other", b, 2, 1, api.OK)
	sets(t, "the other", b, 1, 0, 5, 0, api.OK)
	covers(t, "the other", b, 1, 0, 1, api.OK)
	holds(t, "the one", a, am)
	drops(t, "the one", a, 1, 0, 3, api.OK, 7, 8)
	bm.tables[1] = &table{[]int{2, 1}, []int{5, 0}}
	holds(t, "the other", b, bm)
}

func TestChaptersExample(t *testing.T) { // P13.1, P13.2, P13.3
	p := amap.New(9)
	makes(t, "the example", p, 4, 1, api.OK)
	sets(t, "the example", p, 1, 2, 9, 0, api.OK)
	covers(t, "the example", p, 1, 0, 2, api.OK)
	drops(t, "the example", p, 1, 0, 4, api.OK, 9)
	holds(t, "the example", p, &model{9, map[int]*table{1: {[]int{1, 1, 0, 0}, []int{0, 0, 0, 0}}}})
}

func TestMakeOfSoManySlots(t *testing.T) { // P13.1
	p, m := made(t, 0, 20)
	for k, slots := range []int{1, 2, 3, 64, 1000, maxItems - 1, maxItems} {
		makes(t, "slots", p, slots, k+1, api.OK)
		m.tables[k+1] = blank(slots)
	}
	for _, slots := range append(far(), 0, -1, maxItems+1, maxItems+2) {
		makes(t, "no such number", p, slots, 0, api.ErrInval)
	}
	holds(t, "slots", p, m)
}

func TestMakeUntilThereAreMost(t *testing.T) { // P13.1, R2: ErrInval is ahead of ErrNoMem
	for _, n := range []int{0, 1, 2, 5, 40} {
		p, m := made(t, 0, n)
		for id := 1; id <= n; id++ {
			makes(t, "one more", p, id, id, api.OK)
			m.tables[id] = blank(id)
			holds(t, "one more", p, m)
		}
		for _, slots := range []int{1, 2, maxItems} {
			makes(t, "no room", p, slots, 0, api.ErrNoMem)
		}
		for _, slots := range append(far(), 0, -1, maxItems+1) {
			makes(t, "no room, no such number", p, slots, 0, api.ErrInval)
		}
		holds(t, "no room", p, m)
	}
	p, m := made(t, maxItems, maxItems)
	makes(t, "as many as there may be", p, 5, 0, api.ErrNoMem)
	goes(t, p, m, maxItems)
	goes(t, p, m, 2048)
	full(t, "as many as there may be", p, m)
}

func TestMakeTakesTheLowest(t *testing.T) { // P13.1
	for id := 1; id <= 9; id++ { // the first one, the last one and those between
		for _, room := range []int{9, 10, 20} {
			p, m := made(t, 9, room)
			goes(t, p, m, id)
			holds(t, "one is gone", p, m)
			makes(t, "one is gone", p, 4, id, api.OK)
			m.tables[id] = blank(4)
			holds(t, "it is there again", p, m)
			full(t, "it is there again", p, m)
		}
	}
}

// orders tells all orders of a list.
func orders(list []int, tell func([]int)) {
	var from func(k int)
	from = func(k int) {
		if k == len(list) {
			tell(slices.Clone(list))
			return
		}
		for i := k; i < len(list); i++ {
			list[k], list[i] = list[i], list[k]
			from(k + 1)
			list[k], list[i] = list[i], list[k]
		}
	}
	from(0)
}

func TestMakeTakesTheLowestInWhateverOrderTheyGo(t *testing.T) { // P13.1
	for _, ids := range [][]int{{1, 2}, {2, 5}, {1, 4, 6}, {3, 4, 5, 6}, {1, 2, 3, 5, 8}} {
		orders(ids, func(order []int) {
			for _, room := range []int{8, 9} {
				p, m := made(t, 8, room)
				for _, id := range order {
					goes(t, p, m, id)
				}
				holds(t, "several are gone", p, m)
				full(t, "several are gone", p, m)
			}
		})
	}
}

func TestANewOneHasNothingOfTheOneAhead(t *testing.T) { // P13.1, P13.3
	p, m := one(t, 3, 7, 8, 9)
	covers(t, "the one ahead", p, 1, 1, 2, api.OK)
	drops(t, "the one ahead", p, 1, 0, 3, api.OK, 7, 9)
	drops(t, "the one ahead", p, 1, 1, 2, api.OK, 8)
	makes(t, "the new one", p, 5, 1, api.OK)
	m.tables[1] = blank(5)
	holds(t, "the new one", p, m)
}

func TestCallsForNone(t *testing.T) { // P13.1, P13.2, R2: ErrNone is ahead of ErrInval and ErrNoMem
	p, m := made(t, 9, 9)
	full(t, "none", p, m)
	none := func(id int) {
		t.Helper()
		for _, n := range anyNumber() {
			sets(t, "none", p, id, n, 1, 0, api.ErrNone)
			sets(t, "none", p, id, 0, n, 0, api.ErrNone)
			for _, to := range []int{n, 0, 1, -1, math.MaxInt} {
				covers(t, "none", p, id, n, to, api.ErrNone)
				drops(t, "none", p, id, n, to, api.ErrNone)
				copies(t, "none", p, id, n, to, 0, api.ErrNone)
			}
		}
	}
	for _, id := range noAmap(9) {
		none(id)
	}
	holds(t, "none", p, m)
	goes(t, p, m, 2)
	goes(t, p, m, 9)
	none(2)
	none(9)
	holds(t, "those that are gone", p, m)
	full(t, "those that are gone", p, m)
}

func TestCallsOfAPoolWithoutRoom(t *testing.T) { // P13.1, P13.2: it was made
	p, m := made(t, 0, 0)
	for _, n := range anyNumber() {
		sets(t, "no room", p, n, 0, 1, 0, api.ErrNone)
		covers(t, "no room", p, n, 0, 1, api.ErrNone)
		drops(t, "no room", p, n, 0, 1, api.ErrNone)
		copies(t, "no room", p, n, 0, 1, 0, api.ErrNone)
	}
	makes(t, "no room", p, 1, 0, api.ErrNoMem)
	makes(t, "no room", p, 0, 0, api.ErrInval)
	holds(t, "no room", p, m)
}

func TestSet(t *testing.T) { // P13.1
	p, m := made(t, 3, 3)
	for slot := range 3 {
		was := 0
		for _, anon := range []int{5, 6, 6, 0, 0, 1, maxItems, maxItems + 1, math.MaxInt, 0, 1 << 32, 7 + slot} {
			sets(t, "Set", p, 3, slot, anon, was, api.OK)
			m.tables[3].anons[slot] = anon
			holds(t, "Set", p, m)
			was = anon
		}
	}
	for slot := range 3 { // one anon may stand in several slots
		sets(t, "the same", p, 3, slot, 4, 7+slot, api.OK)
		m.tables[3].anons[slot] = 4
	}
	sets(t, "the same, of another amap", p, 1, 0, 4, 0, api.OK)
	m.tables[1].anons[0] = 4
	holds(t, "the same", p, m)
	sets(t, "one of them", p, 3, 1, 0, 4, api.OK)
	m.tables[3].anons[1] = 0
	holds(t, "one of them", p, m)
}

func TestSetThatMayNotBe(t *testing.T) { // P13.1, R2
	p, m := one(t, 2, 5, -1, 0, 8)
	for _, slot := range append(past(4), 4) {
		for _, anon := range anyNumber() {
			sets(t, "no slot", p, 1, slot, anon, 0, api.ErrInval)
		}
	}
	for _, anon := range anyNumber() {
		sets(t, "covered by none", p, 1, 1, anon, 0, api.ErrInval)
	}
	for slot := range 4 {
		for _, anon := range []int{-1, -2, -maxItems, math.MinInt, math.MinInt + 1} {
			sets(t, "below 0", p, 1, slot, anon, 0, api.ErrInval)
			sets(t, "below 0, of none", p, 2, slot, anon, 0, api.ErrNone)
		}
	}
	holds(t, "may not be", p, m)
	sets(t, "behind it", p, 1, 3, 9, 8, api.OK)
}

func TestUsed(t *testing.T) { // P13.1
	for _, anons := range [][]int{{0}, {4}, {0, 0, 0}, {1, 2, 3}, {9, 0, 0}, {0, 0, 9}, {0, 9, 0}, {5, 0, 5, 0, 5}, {0, -1, 7, -1}, {-1, -1, 3}} {
		p, m := one(t, 1, anons...)
		if list := collect(p.Used(1)); !slices.Equal(list, used(m.tables[1].anons)) {
			t.Errorf("Used: %v, want %v", list, used(m.tables[1].anons))
		}
	}
	p, _ := made(t, 0, 1)
	makes(t, "many slots", p, maxItems, 1, api.OK)
	var want []pair
	for slot := range maxItems {
		sets(t, "many slots", p, 1, slot, maxItems-slot, 0, api.OK)
		want = append(want, pair{slot, maxItems - slot})
	}
	if list := collect(p.Used(1)); !slices.Equal(list, want) {
		t.Errorf("Used of many slots: %v", list)
	}
}

func TestUsedIsLeftEarlyAndGoneOverAgain(t *testing.T) { // P13.1, R3
	p, _ := one(t, 1, 7, 0, 8, 9, 0, 10)
	all := []pair{{0, 7}, {2, 8}, {3, 9}, {5, 10}}
	seq := p.Used(1)
	for n := 1; n <= len(all); n++ {
		var list []pair
		for slot, anon := range seq {
			list = append(list, pair{slot, anon})
			if len(list) == n {
				break
			}
		}
		if !slices.Equal(list, all[:n]) {
			t.Errorf("left early: %v, want %v", list, all[:n])
		}
		if list := collect(seq); !slices.Equal(list, all) {
			t.Errorf("again: %v, want %v", list, all)
		}
	}
	var list []pair
	for slot, anon := range seq {
		list = append(list, pair{slot, anon})
		for slot, anon := range seq {
			list = append(list, pair{slot, anon})
			if slot == 3 {
				break
			}
		}
		list = append(list, collect(p.Used(1))...)
	}
	var want []pair
	for _, x := range all {
		want = append(append(append(want, x), all[:3]...), all...)
	}
	if !slices.Equal(list, want) {
		t.Errorf("nested: %v, want %v", list, want)
	}
}

func TestUsedIsAsItWasWhenItWasAskedFor(t *testing.T) { // P13.1, R3
	p, m := one(t, 2, 7, 0, 8, 9)
	seq, all := p.Used(1), used(m.tables[1].anons)
	still := func(what string) {
		t.Helper()
		if list := collect(seq); !slices.Equal(list, all) {
			t.Errorf("%s: %v, want %v", what, list, all)
		}
	}
	sets(t, "Set", p, 1, 0, 0, 7, api.OK)
	sets(t, "Set", p, 1, 1, 5, 0, api.OK)
	sets(t, "Set", p, 1, 3, 6, 9, api.OK)
	still("Set")
	drops(t, "Drop of one", p, 1, 2, 3, api.OK, 8)
	still("Drop of one")
	copies(t, "Copy", p, 1, 0, 4, 2, api.OK, 5, 6)
	drops(t, "Drop of all", p, 1, 0, 2, api.OK, 5)
	drops(t, "Drop of all", p, 1, 3, 4, api.OK, 6)
	still("it is gone")
	none := p.Used(1)
	makes(t, "another one", p, 4, 1, api.OK)
	sets(t, "another one", p, 1, 2, 3, 0, api.OK)
	still("another one has its number")
	if list := collect(none); len(list) != 0 {
		t.Errorf("asked for where there was none: %v", list)
	}
	seq = p.Used(2)
	var list []pair
	for slot, anon := range seq { // what is changed while it is gone over
		list = append(list, pair{slot, anon})
		p.Set(2, 3, 77)
		p.Set(2, 2, 78)
	}
	if !slices.Equal(list, []pair{{1, 5}, {3, 6}}) {
		t.Errorf("changed meanwhile: %v, want [{1 5} {3 6}]", list)
	}
}

func TestIdsAreTheCallers(t *testing.T) { // P13.1, R3
	for _, n := range []int{1, 3, 70, 1000} {
		p, m := made(t, n, n)
		a, b := p.Ids(), p.Ids()
		if slices.ContainsFunc(a[len(a):cap(a)], func(id int) bool { return id != 0 }) {
			t.Errorf("spare room: %v", a[:cap(a)])
		}
		a = a[:cap(a)]
		for i := range a {
			a[i] = 99
		}
		_ = append(a, 98)
		if ids := p.Ids(); !slices.Equal(ids, m.ids()) || !slices.Equal(b, ids) {
			t.Errorf("a list that was changed: %v, %v", ids, b)
		}
		want := m.ids()
		goes(t, p, m, 1)
		if !slices.Equal(b, want) {
			t.Errorf("a list that was told ahead: %v, want %v", b, want)
		}
		holds(t, "behind that", p, m)
	}
}

func TestHold(t *testing.T) { // P13.2
	const slots = 5
	for lo := range slots {
		for hi := lo + 1; hi <= slots; hi++ { // the whole, one slot, and parts of all kinds
			p, m := one(t, 2, 4, 0, 6, 7, 0)
			for range 3 {
				covers(t, "Hold", p, 1, lo, hi, api.OK)
				for slot := lo; slot < hi; slot++ {
					m.tables[1].cover[slot]++
				}
				holds(t, "Hold", p, m)
			}
		}
	}
}

// wrongRanges has ranges that may not be, of so many slots.
func wrongRanges(slots int) [][2]int {
	var list [][2]int
	for lo := range slots + 1 {
		for hi := range lo + 1 { // lo at hi, and above it
			list = append(list, [2]int{lo, hi})
		}
	}
	for _, n := range past(slots) {
		for at := range slots + 1 {
			list = append(list, [2]int{n, at}, [2]int{at, n})
		}
		for _, to := range past(slots) {
			list = append(list, [2]int{n, to})
		}
	}
	return list
}

func TestRangesThatMayNotBe(t *testing.T) { // P13.2, R2, R6
	for _, anons := range [][]int{{4}, {4, 0, 6}, {4, -1, 6, 7}} {
		p, m := one(t, 2, anons...)
		covers(t, "twice", p, 1, 0, 1, api.OK)
		m.tables[1].cover[0] = 2
		for _, x := range wrongRanges(len(anons)) {
			covers(t, "may not be", p, 1, x[0], x[1], api.ErrInval)
			drops(t, "may not be", p, 1, x[0], x[1], api.ErrInval)
			copies(t, "may not be", p, 1, x[0], x[1], 0, api.ErrInval)
		}
		holds(t, "may not be", p, m)
		full(t, "may not be", p, m)
	}
}

func TestSlotsThatNoneCovers(t *testing.T) { // P13.2: one of them anywhere in the range
	for bare := range 5 {
		anons := []int{4, 5, 6, 7, 8}
		anons[bare] = -1
		p, m := one(t, 1, anons...)
		for lo := range 5 {
			for hi := lo + 1; hi <= 5; hi++ {
				if bare >= lo && bare < hi {
					covers(t, "covered by none", p, 1, lo, hi, api.ErrInval)
					drops(t, "covered by none", p, 1, lo, hi, api.ErrInval)
				}
			}
		}
		holds(t, "covered by none", p, m)
		for slot := range 5 {
			if slot != bare {
				covers(t, "the others", p, 1, slot, slot+1, api.OK)
				m.tables[1].cover[slot] = 2
			}
		}
		holds(t, "the others", p, m)
		if bare > 0 {
			drops(t, "up to it", p, 1, 0, bare, api.OK)
		}
		if bare < 4 {
			drops(t, "from behind it on", p, 1, bare+1, 5, api.OK)
		}
		x := blank(5)
		copy(x.anons, anons)
		x.cover[bare], x.anons[bare] = 0, 0
		m.tables[1] = x
		holds(t, "up to it, and from behind it on", p, m)
	}
}

func TestHoldAsOftenAsACountCanGrow(t *testing.T) { // P13.2
	p, m := one(t, 2, 4, 5, 6)
	for range most - 1 {
		if err := p.Hold(1, 1, 2); err != api.OK {
			t.Fatalf("Hold: %v", err)
		}
	}
	m.tables[1].cover[1] = most
	holds(t, "as often as may be", p, m)
	for lo := range 2 {
		for hi := 2; hi <= 3; hi++ {
			covers(t, "once more", p, 1, lo, hi, api.ErrInval)
		}
	}
	holds(t, "once more", p, m)
	copies(t, "the copy", p, 1, 1, 2, 2, api.OK, 5)
	m.tables[2] = &table{[]int{1}, []int{5}}
	drops(t, "one less", p, 1, 0, 3, api.OK, 4, 6)
	m.tables[1] = &table{[]int{0, most - 1, 0}, []int{0, 5, 0}}
	holds(t, "one less", p, m)
	covers(t, "once more", p, 1, 1, 2, api.OK)
	covers(t, "once more", p, 1, 1, 2, api.ErrInval)
	for range most - 1 {
		if list, err := p.Drop(1, 1, 2); err != api.OK || len(list) != 0 {
			t.Fatalf("Drop: %v, %v", list, err)
		}
	}
	m.tables[1].cover[1] = 1
	holds(t, "back", p, m)
	drops(t, "to none", p, 1, 1, 2, api.OK, 5)
	delete(m.tables, 1)
	holds(t, "to none", p, m)
}

func TestDropOfParts(t *testing.T) { // P13.2, P13.3
	anons := []int{14, 0, 13, 12, 0, 11}
	for lo := range 6 {
		for hi := lo + 1; hi <= 6; hi++ {
			p, m := one(t, 2, anons...)
			covers(t, "some twice", p, 1, 1, 4, api.OK)
			m.tables[1].cover = []int{1, 2, 2, 2, 1, 1}
			var left []int
			x := m.tables[1]
			for slot := lo; slot < hi; slot++ {
				x.cover[slot]--
				if x.cover[slot] == 0 && x.anons[slot] != 0 {
					left = append(left, x.anons[slot])
					x.anons[slot] = 0
				}
			}
			drops(t, "a part", p, 1, lo, hi, api.OK, left...)
			holds(t, "a part", p, m)
		}
	}
}

func TestDropTellsTheAnonsBySlots(t *testing.T) { // P13.2
	p, _ := one(t, 2, 9, 0, 5, 5, math.MaxInt, 0, 1)
	drops(t, "all", p, 1, 0, 7, api.OK, 9, 5, 5, math.MaxInt, 1)
	p, _ = one(t, 2, 0, 0, 0)
	drops(t, "no anons", p, 1, 0, 3, api.OK)
	p, m := one(t, 2, 3, 8, 2)
	sets(t, "the last one", p, 1, 1, 6, 8, api.OK)
	sets(t, "emptied ahead", p, 1, 0, 0, 3, api.OK)
	drops(t, "as it is then", p, 1, 0, 3, api.OK, 6, 2)
	delete(m.tables, 1)
	holds(t, "as it is then", p, m)

	p, m = made(t, 0, 1)
	makes(t, "many", p, maxItems, 1, api.OK)
	var all []int
	for slot := range maxItems {
		sets(t, "many", p, 1, slot, 2*maxItems-slot, 0, api.OK)
		all = append(all, 2*maxItems-slot)
	}
	drops(t, "many", p, 1, 0, maxItems, api.OK, all...)
	holds(t, "many", p, m)
}

func TestAnAmapIsThereAsLongAsASlotIsCovered(t *testing.T) { // P13.2, P13.3
	orders([]int{0, 1, 2, 3}, func(order []int) { // whichever slot is the last one
		p, m := one(t, 2, 4, 0, 5, 6)
		copies(t, "another one", p, 1, 0, 1, 2, api.OK, 4)
		m.tables[2] = &table{[]int{1}, []int{4}}
		for k, slot := range order {
			anons := m.tables[1].anons[slot : slot+1]
			if slot == 1 {
				anons = nil
			}
			drops(t, "one by one", p, 1, slot, slot+1, api.OK, anons...)
			m.tables[1].anons[slot], m.tables[1].cover[slot] = 0, 0
			if k < 3 {
				makes(t, "its number is not free", p, 1, 0, api.ErrNoMem)
			} else {
				delete(m.tables, 1)
			}
			holds(t, "one by one", p, m)
		}
		drops(t, "it is gone", p, 1, 0, 4, api.ErrNone)
		covers(t, "it is gone", p, 1, 0, 4, api.ErrNone)
		makes(t, "its number is free", p, 3, 1, api.OK)
		m.tables[1] = blank(3)
		holds(t, "its number is free", p, m)
	})
}

func TestASlotThatNoneCoversStaysSo(t *testing.T) { // P13.3
	p, m := one(t, 1, 4, 5, 6)
	drops(t, "the middle", p, 1, 1, 2, api.OK, 5)
	m.tables[1] = &table{[]int{1, 0, 1}, []int{4, 0, 6}}
	holds(t, "the middle", p, m)
	covers(t, "the middle", p, 1, 1, 2, api.ErrInval)
	drops(t, "the middle", p, 1, 1, 2, api.ErrInval)
	sets(t, "the middle", p, 1, 1, 5, 0, api.ErrInval)
	sets(t, "the middle", p, 1, 1, 0, 0, api.ErrInval)
	holds(t, "the middle", p, m)
	drops(t, "the others", p, 1, 0, 1, api.OK, 4)
	drops(t, "the others", p, 1, 2, 3, api.OK, 6)
	delete(m.tables, 1)
	holds(t, "the others", p, m)
}

func TestCopy(t *testing.T) { // P13.2
	for lo := range 6 {
		for hi := lo + 1; hi <= 6; hi++ { // the whole, one slot, and parts of all kinds
			p, m := one(t, 2, 9, 0, -1, 5, 5, 0)
			covers(t, "some twice", p, 1, 3, 6, api.OK)
			m.tables[1].cover = []int{1, 1, 0, 2, 2, 2}
			x := blank(hi - lo)
			var both []int
			for k := range hi - lo {
				if x.anons[k] = m.tables[1].anons[lo+k]; x.anons[k] != 0 {
					both = append(both, x.anons[k])
				}
			}
			m.tables[2] = x
			copies(t, "Copy", p, 1, lo, hi, 2, api.OK, both...)
			holds(t, "Copy", p, m)
		}
	}
}

func TestCopyOfManySlots(t *testing.T) { // P13.2
	p, m := made(t, 0, 3)
	makes(t, "many", p, maxItems, 1, api.OK)
	x := blank(maxItems)
	for slot := range maxItems {
		x.anons[slot] = 2*maxItems - slot
		sets(t, "many", p, 1, slot, x.anons[slot], 0, api.OK)
	}
	m.tables[1] = x
	copies(t, "many", p, 1, 0, maxItems, 2, api.OK, x.anons...)
	m.tables[2] = x
	copies(t, "many", p, 1, maxItems-1, maxItems, 3, api.OK, maxItems+1)
	m.tables[3] = &table{[]int{1}, []int{maxItems + 1}}
	holds(t, "many", p, m)
}

func TestCopyTakesTheLowestNumber(t *testing.T) { // P13.1, P13.2, R2: ErrInval is ahead of ErrNoMem
	p, m := made(t, 5, 5)
	full(t, "Copy", p, m)
	goes(t, p, m, 4)
	goes(t, p, m, 1)
	sets(t, "Copy", p, 3, 1, 8, 0, api.OK)
	m.tables[3].anons[1] = 8
	for _, id := range []int{1, 4} {
		copies(t, "the lowest one", p, 3, 0, 3, id, api.OK, 8)
		m.tables[id] = &table{[]int{1, 1, 1}, []int{0, 8, 0}}
		holds(t, "the lowest one", p, m)
	}
	for _, x := range wrongRanges(3) {
		copies(t, "no room, may not be", p, 3, x[0], x[1], 0, api.ErrInval)
	}
	for hi := 1; hi <= 3; hi++ {
		copies(t, "no room", p, 3, 0, hi, 0, api.ErrNoMem)
	}
	holds(t, "no room", p, m)
	drops(t, "one is gone", p, 4, 0, 3, api.OK, 8)
	delete(m.tables, 4)
	full(t, "one is gone", p, m)
}

func TestACopyGoesItsOwnWay(t *testing.T) { // P13.2
	for _, x := range [][2]int{{1, 2}, {2, 1}} { // the one that is changed, and the one that stays
		p, m := one(t, 2, 7, 0, 8)
		copies(t, "Copy", p, 1, 0, 3, 2, api.OK, 7, 8)
		m.tables[2] = &table{[]int{1, 1, 1}, []int{7, 0, 8}}
		holds(t, "Copy", p, m)
		changed, stays := x[0], m.tables[x[1]]
		sets(t, "Set", p, changed, 0, 5, 7, api.OK)
		sets(t, "Set", p, changed, 1, 6, 0, api.OK)
		sets(t, "Set", p, changed, 2, 0, 8, api.OK)
		m.tables[changed].anons = []int{5, 6, 0}
		holds(t, "Set", p, m)
		covers(t, "Hold", p, changed, 0, 2, api.OK)
		m.tables[changed].cover = []int{2, 2, 1}
		holds(t, "Hold", p, m)
		drops(t, "Drop", p, changed, 1, 3, api.OK)
		m.tables[changed].cover = []int{2, 1, 0}
		holds(t, "Drop", p, m)
		drops(t, "Drop", p, changed, 0, 2, api.OK, 6)
		drops(t, "Drop", p, changed, 0, 1, api.OK, 5)
		delete(m.tables, changed)
		holds(t, "one is gone", p, m)
		has(t, "the other", p, x[1], stays)
	}
}

func TestACopyOfACopy(t *testing.T) { // P13.2
	p, m := one(t, 3, 1, 2, 3, 4)
	copies(t, "a part", p, 1, 1, 4, 2, api.OK, 2, 3, 4)
	copies(t, "a part of that", p, 2, 1, 3, 3, api.OK, 3, 4)
	m.tables[2] = &table{[]int{1, 1, 1}, []int{2, 3, 4}}
	m.tables[3] = &table{[]int{1, 1}, []int{3, 4}}
	holds(t, "a part of a part", p, m)
	drops(t, "the one between", p, 2, 0, 3, api.OK, 2, 3, 4)
	delete(m.tables, 2)
	holds(t, "the one between", p, m)
}

func TestListsThatAreToldAreTheCallers(t *testing.T) { // P13.2, R3
	p, m := one(t, 3, 7, 8, 0, 9)
	_, a, _ := p.Copy(1, 0, 4)
	_, b, _ := p.Copy(1, 0, 4)
	gone, _ := p.Drop(2, 0, 4)
	for _, list := range [][]int{a, b, gone} {
		if !slices.Equal(list, []int{7, 8, 9}) {
			t.Fatalf("%v, want [7 8 9]", list)
		}
		if slices.ContainsFunc(list[len(list):cap(list)], func(n int) bool { return n != 0 }) {
			t.Errorf("spare room: %v", list[:cap(list)])
		}
		list = list[:cap(list)]
		for i := range list {
			list[i] = 99
		}
		_ = append(list, 98)
	}
	m.tables[3] = &table{[]int{1, 1, 1, 1}, []int{7, 8, 0, 9}}
	holds(t, "lists that were changed", p, m)
	_, kept, _ := p.Copy(3, 0, 4)
	part, _ := p.Drop(1, 0, 2)
	sets(t, "behind that", p, 3, 0, 55, 7, api.OK)
	sets(t, "behind that", p, 2, 0, 56, 7, api.OK)
	drops(t, "behind that", p, 1, 2, 4, api.OK, 9)
	makes(t, "behind that", p, 4, 1, api.OK)
	sets(t, "behind that", p, 1, 0, 57, 0, api.OK)
	if !slices.Equal(kept, []int{7, 8, 9}) || !slices.Equal(part, []int{7, 8}) {
		t.Errorf("lists that were told ahead: %v, %v, want [7 8 9], [7 8]", kept, part)
	}
}

// dice tells numbers that look like any.
type dice uint64

func (d *dice) below(n int) int {
	*d = *d*6364136223846793005 + 1442695040888963407
	return int(uint64(*d>>33) % uint64(n))
}

// may tells whether lo to below hi are slots of a table, one at least.
func (x *table) may(lo, hi int) bool { return lo >= 0 && lo < hi && hi <= len(x.anons) }

// covered tells whether lo to below hi are slots that may be held and dropped.
func (x *table) covered(lo, hi int) bool {
	return x.may(lo, hi) && !slices.Contains(x.cover[lo:hi], 0)
}

// drop is what Drop does to a table: the anons that go, and whether a slot is covered still.
func (x *table) drop(lo, hi int) ([]int, bool) {
	var left []int
	for slot := lo; slot < hi; slot++ {
		x.cover[slot]--
		if x.cover[slot] == 0 && x.anons[slot] != 0 {
			left = append(left, x.anons[slot])
			x.anons[slot] = 0
		}
	}
	return left, slices.ContainsFunc(x.cover, func(n int) bool { return n > 0 })
}

// run is a pool and its model, to which the same is done.
type run struct {
	t *testing.T
	p *amap.Pool
	m *model
}

// why tells why there is no such amap, or what may not be done to it.
func why(x *table, may bool) api.Errno {
	switch {
	case x == nil:
		return api.ErrNone
	case !may:
		return api.ErrInval
	}
	return api.OK
}

// lay does a Make of both, as far as there is room; tell asks the pool.
func (r run) lay(x *table, tell func(want int, e api.Errno)) {
	low := r.m.lowest()
	if low > r.m.room {
		tell(0, api.ErrNoMem)
		return
	}
	tell(low, api.OK)
	r.m.tables[low] = x
}

func (r run) make(slots int) {
	r.t.Helper()
	if slots < 1 {
		makes(r.t, "a long run", r.p, slots, 0, api.ErrInval)
		return
	}
	r.lay(blank(slots), func(want int, e api.Errno) { makes(r.t, "a long run", r.p, slots, want, e) })
}

func (r run) set(id, slot, anon int) {
	r.t.Helper()
	x, was := r.m.tables[id], 0
	e := why(x, x != nil && x.covered(slot, slot+1) && anon >= 0)
	if e == api.OK {
		was, x.anons[slot] = x.anons[slot], anon
	}
	sets(r.t, "a long run", r.p, id, slot, anon, was, e)
}

func (r run) hold(id, lo, hi int) {
	r.t.Helper()
	x := r.m.tables[id]
	e := why(x, x != nil && x.covered(lo, hi))
	for slot := lo; slot < hi && e == api.OK; slot++ {
		x.cover[slot]++
	}
	covers(r.t, "a long run", r.p, id, lo, hi, e)
}

func (r run) drop(id, lo, hi int) {
	r.t.Helper()
	x, left, still := r.m.tables[id], []int(nil), true
	e := why(x, x != nil && x.covered(lo, hi))
	if e == api.OK {
		left, still = x.drop(lo, hi)
	}
	if !still {
		delete(r.m.tables, id)
	}
	drops(r.t, "a long run", r.p, id, lo, hi, e, left...)
}

func (r run) copy(id, lo, hi int) {
	r.t.Helper()
	x := r.m.tables[id]
	if e := why(x, x != nil && x.may(lo, hi)); e != api.OK {
		copies(r.t, "a long run", r.p, id, lo, hi, 0, e)
		return
	}
	other := blank(hi - lo)
	copy(other.anons, x.anons[lo:hi])
	r.lay(other, func(want int, e api.Errno) {
		var both []int
		for _, x := range used(other.anons) {
			if e == api.OK {
				both = append(both, x.anon)
			}
		}
		copies(r.t, "a long run", r.p, id, lo, hi, want, e, both...)
	})
}

func TestAgainstAModel(t *testing.T) { // P13.1, P13.2, P13.3
	for _, room := range []int{1, 2, 3, 7, 20} {
		d := dice(room)
		p, m := made(t, 0, room)
		r := run{t, p, m}
		for range 3000 {
			id, lo := d.below(room+3)-1, d.below(9)-1
			hi := lo + d.below(6) - 1
			switch d.below(7) {
			case 0:
				r.make(d.below(9))
			case 1, 2:
				r.set(id, lo, d.below(20)-1)
			case 3:
				r.hold(id, lo, hi)
			case 4, 5:
				r.drop(id, lo, hi)
			case 6:
				r.copy(id, lo, hi)
			}
			holds(t, "a long run", p, m)
		}
		full(t, "a long run", p, m)
	}
}

func TestPoolsThatNoCallMade(t *testing.T) { // R5, and R2: ErrMade is the first error
	for name, p := range map[string]*amap.Pool{"nil": nil, "a zero value": {}, "what New answered": amap.New(-1)} {
		for range 2 {
			for _, n := range anyNumber() {
				makes(t, name, p, n, 0, api.ErrMade)
				for _, x := range [][3]int{{n, 0, 1}, {1, n, 1}, {1, 0, n}, {n, n, n}} {
					sets(t, name, p, x[0], x[1], x[2], 0, api.ErrMade)
					covers(t, name, p, x[0], x[1], x[2], api.ErrMade)
					drops(t, name, p, x[0], x[1], x[2], api.ErrMade)
					copies(t, name, p, x[0], x[1], x[2], 0, api.ErrMade)
				}
			}
			holds(t, name, p, &model{})
		}
	}
}
