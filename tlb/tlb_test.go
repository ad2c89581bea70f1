package tlb_test

import (
	"math"
	"slices"
	"strconv"
	"testing"

	"pantry/api"
	"pantry/tlb"
)

const maxSize = 1024

// kept is an entry beside the key that it is kept for.
type kept struct {
	k tlb.Key
	e api.PTE
}

func key(asid, vpn int) tlb.Key { return tlb.Key{Asid: asid, VPN: vpn} }

// entry is another one for each number; that of 0 is all zeros, which is an entry like any other.
func entry(n int) api.PTE { return api.PTE{Flags: n, PPN: 3 * n} }

// item is what is kept of a page: its entry is another one for each page too.
func item(asid, vpn int) kept { return kept{key(asid, vpn), entry(100*asid + vpn)} }

// row has items of one space, by their pages.
func row(asid int, vpns ...int) []kept {
	var items []kept
	for _, vpn := range vpns {
		items = append(items, item(asid, vpn))
	}
	return items
}

// table is a new table into which the items were put, one after the other.
func table(t *testing.T, size int, items ...kept) *tlb.Table {
	t.Helper()
	x := tlb.New(size)
	if x == nil {
		t.Fatalf("New(%d): nil", size)
	}
	for _, i := range items {
		x.Put(i.k, i.e)
	}
	return x
}

// holds asks, by each call that tells something, whether a table keeps these, from the eldest on, and nothing else.
func holds(t *testing.T, what string, x *tlb.Table, items ...kept) {
	t.Helper()
	var keys []tlb.Key
	for _, i := range items {
		keys = append(keys, i.k)
		if e, ok := x.Find(i.k); e != i.e || !ok {
			t.Fatalf("%s: Find(%v): %v, %v, want %v, true", what, i.k, e, ok, i.e)
		}
	}
	if got := x.Keys(); !slices.Equal(got, keys) {
		t.Fatalf("%s: Keys: %v, want %v", what, got, keys)
	}
	if n := x.Len(); n != len(items) {
		t.Fatalf("%s: Len: %d, want %d", what, n, len(items))
	}
}

// lacks asks whether nothing is kept for these keys.
func lacks(t *testing.T, what string, x *tlb.Table, keys ...tlb.Key) {
	t.Helper()
	for _, k := range keys {
		if e, ok := x.Find(k); e != (api.PTE{}) || ok {
			t.Fatalf("%s: Find(%v): %v, %v, want zeros, false", what, k, e, ok)
		}
	}
}

// flushes asks Flush for its answer.
func flushes(t *testing.T, what string, x *tlb.Table, k tlb.Key, want bool) {
	t.Helper()
	if got := x.Flush(k); got != want {
		t.Errorf("%s: Flush(%v): %v, want %v", what, k, got, want)
	}
}

// flushesAsid asks FlushAsid for its answer.
func flushesAsid(t *testing.T, what string, x *tlb.Table, asid, want int) {
	t.Helper()
	if got := x.FlushAsid(asid); got != want {
		t.Errorf("%s: FlushAsid(%d): %d, want %d", what, asid, got, want)
	}
}

// flushesAll asks FlushAll for its answer.
func flushesAll(t *testing.T, what string, x *tlb.Table, want int) {
	t.Helper()
	if got := x.FlushAll(); got != want {
		t.Errorf("%s: FlushAll: %d, want %d", what, got, want)
	}
}

// ends are numbers at their ends, and some that differ in their highest bits alone.
func ends() []int {
	return []int{0, 1, -1, 5, 1<<32 + 5, 5 - 1<<32, 1 << 31, 1 << 32, -1 << 31, 1 << 62, math.MaxInt, math.MaxInt - 1, math.MinInt, math.MinInt + 5}
}

func TestNew(t *testing.T) { // P5.1
	for _, size := range []int{0, 1, 2, maxSize - 1, maxSize} {
		x := table(t, size)
		holds(t, "New", x)
		lacks(t, "New", x, key(0, 0), key(1, 1))
	}
	for _, size := range []int{-1, -2, -maxSize, math.MinInt, maxSize + 1, maxSize + 2, 1 << 16, 1 << 32, 1<<32 + 1, math.MaxInt} {
		if x := tlb.New(size); x != nil {
			t.Errorf("New(%d): a table, want nil", size)
		}
	}
}

func TestNewIsApart(t *testing.T) { // P5.1
	a := table(t, 3, row(1, 1, 2)...)
	b := table(t, 3)
	holds(t, "the second table", b)
	b.Put(key(1, 1), entry(9))
	b.Put(key(1, 3), entry(9))
	flushes(t, "the second table", b, key(1, 2), false)
	holds(t, "the first table", a, row(1, 1, 2)...)
	flushesAll(t, "the first table", a, 2)
	holds(t, "the second table", b, kept{key(1, 1), entry(9)}, kept{key(1, 3), entry(9)})
}

func TestSizes(t *testing.T) { // P5.1
	for _, size := range []int{1, 2, 3, maxSize - 1, maxSize} {
		what := "size " + strconv.Itoa(size)
		var items []kept
		for n := range 2*size + 1 {
			items = append(items, item(n%3, n))
		}
		x := table(t, size, items[:size]...)
		holds(t, what+", full", x, items[:size]...)
		x.Put(items[size].k, items[size].e)
		holds(t, what+", one more", x, items[1:size+1]...)
		lacks(t, what+", one more", x, items[0].k)
		for _, i := range items[size+1:] {
			x.Put(i.k, i.e)
		}
		holds(t, what+", all gone once", x, items[size+1:]...)
		for _, i := range items[:size+1] {
			lacks(t, what+", all gone once", x, i.k)
		}
	}
}

func TestSizeNought(t *testing.T) { // P5.1, P5.2
	x := table(t, 0, row(1, 1, 1, 2)...)
	holds(t, "size 0", x)
	lacks(t, "size 0", x, key(1, 1), key(1, 2), key(0, 0))
	flushes(t, "size 0", x, key(1, 1), false)
	flushesAsid(t, "size 0", x, 1, 0)
	flushesAll(t, "size 0", x, 0)
	x.Put(key(0, 0), entry(0))
	holds(t, "size 0, behind the flushes", x)
}

func TestFind(t *testing.T) { // P5.1
	x := table(t, 3, row(1, 1, 2, 3)...)
	lacks(t, "Find", x, key(1, 4), key(1, 0), key(0, 1), key(2, 1), key(0, 0))
	holds(t, "Find of what is not kept", x, row(1, 1, 2, 3)...)
	for range 5 { // what is found often is not younger for it
		x.Find(key(1, 1))
	}
	x.Put(key(1, 4), item(1, 4).e)
	holds(t, "Put behind Find of the eldest", x, row(1, 2, 3, 4)...)
	lacks(t, "Put behind Find of the eldest", x, key(1, 1))
}

func TestPutOfWhatIsKept(t *testing.T) { // P5.1
	for _, size := range []int{3, 4} {
		what := "size " + strconv.Itoa(size)
		for at := range 3 {
			items := row(1, 7, 5, 6)
			x := table(t, size, items...)
			items[at].e = entry(40 + at)
			x.Put(items[at].k, items[at].e)
			holds(t, what, x, items...)
			x.Put(items[at].k, entry(0))
			x.Put(items[at].k, items[at].e)
			holds(t, what+", twice more", x, items...)
			x.Put(key(2, 0), entry(0))
			want := append(items, kept{key(2, 0), entry(0)})
			holds(t, what+", and a new one", x, want[4-size:]...)
		}
	}
	x := table(t, 1, item(1, 1), kept{key(1, 1), entry(0)})
	holds(t, "the only one, put twice", x, kept{key(1, 1), entry(0)})
}

func TestChaptersExample(t *testing.T) { // P5.1
	a, b, c := item(1, 5), item(1, 6), item(2, 5)
	x := table(t, 2, a, b, a, c)
	holds(t, "a, b, a, c", x, b, c)
	lacks(t, "a, b, a, c", x, a.k)
}

func TestPutOfWhatWentByItself(t *testing.T) { // P5.1
	x := table(t, 2, row(1, 1, 2, 3)...)
	x.Put(key(1, 1), entry(8)) // it had gone: it is the newest now, and another one is the eldest
	holds(t, "Put again", x, item(1, 3), kept{key(1, 1), entry(8)})
	lacks(t, "Put again", x, key(1, 2))
}

func TestFlush(t *testing.T) { // P5.2
	for at, vpn := range []int{4, 2, 3, 1} { // the eldest, two between, the newest
		items := row(1, 4, 2, 3, 1)
		for _, size := range []int{4, 5} {
			what := "place " + strconv.Itoa(at) + " of a table of size " + strconv.Itoa(size)
			x := table(t, size, items...)
			flushes(t, what, x, key(1, vpn), true)
			want := slices.Delete(slices.Clone(items), at, at+1)
			holds(t, what, x, want...)
			lacks(t, what, x, key(1, vpn))
			flushes(t, what+", once more", x, key(1, vpn), false)
			holds(t, what+", once more", x, want...)
			x.Put(key(1, vpn), entry(77)) // it is the newest now, and there is room for it
			want = append(want, kept{key(1, vpn), entry(77)})
			holds(t, what+", put again", x, want...)
			x.Put(key(9, 9), entry(9))
			want = append(want, kept{key(9, 9), entry(9)})
			holds(t, what+", and one more", x, want[5-size:]...)
		}
	}
}

func TestFlushOfWhatIsNotKept(t *testing.T) { // P5.2
	x := table(t, 4)
	flushes(t, "an empty table", x, key(0, 0), false)
	holds(t, "an empty table", x)
	x = table(t, 4, row(1, 1, 2, 3)...)
	for _, k := range []tlb.Key{key(1, 0), key(1, 4), key(0, 1), key(2, 1), key(0, 0), key(-1, 1), key(1, -1)} {
		flushes(t, "what is not kept", x, k, false)
	}
	holds(t, "what is not kept", x, row(1, 1, 2, 3)...)
	x = table(t, 1, item(1, 1))
	flushes(t, "the only one", x, key(1, 1), true)
	holds(t, "the only one", x)
}

func TestFlushAsid(t *testing.T) { // P5.2
	items := []kept{item(2, 1), item(1, 2), item(2, 3), item(-1, 2), item(2, 2), item(1, 9)}
	for _, size := range []int{len(items), len(items) + 3} {
		x := table(t, size, items...)
		for _, none := range []int{0, 3, 9, -2, math.MinInt, math.MaxInt, 1<<32 + 2} {
			flushesAsid(t, "a space of which nothing is kept", x, none, 0)
		}
		holds(t, "a space of which nothing is kept", x, items...)
		flushesAsid(t, "the space of some", x, 2, 3)
		holds(t, "the space of some", x, item(1, 2), item(-1, 2), item(1, 9))
		lacks(t, "the space of some", x, key(2, 1), key(2, 3), key(2, 2))
		flushesAsid(t, "the space of some, once more", x, 2, 0)
		flushesAsid(t, "a space below 0", x, -1, 1)
		holds(t, "a space below 0", x, item(1, 2), item(1, 9))
		lacks(t, "a space below 0", x, key(-1, 2))
		flushesAsid(t, "the space of all", x, 1, 2)
		holds(t, "the space of all", x)
		lacks(t, "the space of all", x, key(1, 2), key(1, 9))
		flushesAsid(t, "an empty table", x, 1, 0)
	}
}

func TestPutBehindFlushAsid(t *testing.T) { // P5.1, P5.2
	x := table(t, 3, item(1, 1), item(2, 1), item(1, 2))
	flushesAsid(t, "a full table", x, 1, 2)
	x.Put(key(1, 2), entry(50))
	x.Put(key(1, 1), entry(51))
	want := []kept{item(2, 1), {key(1, 2), entry(50)}, {key(1, 1), entry(51)}}
	holds(t, "put again", x, want...)
	x.Put(key(3, 3), entry(3))
	holds(t, "one more", x, append(want[1:], kept{key(3, 3), entry(3)})...)
}

func TestFlushAll(t *testing.T) { // P5.2
	x := table(t, 3)
	flushesAll(t, "an empty table", x, 0)
	holds(t, "an empty table", x)
	items := []kept{item(2, 1), item(-1, 2), item(0, 0), item(2, 3)}
	for n := range items {
		x = table(t, len(items), items[:n+1]...)
		flushesAll(t, "a table", x, n+1)
		holds(t, "a table", x)
		for _, i := range items {
			lacks(t, "a table", x, i.k)
		}
		flushesAll(t, "once more", x, 0)
		slices.Reverse(items)
		for _, i := range items {
			x.Put(i.k, i.e)
		}
		holds(t, "put again", x, items...)
		slices.Reverse(items)
	}
}

func TestEntriesOfZeros(t *testing.T) { // P5.1, P5.2
	items := []kept{{key(0, 0), entry(0)}, {key(1, 0), entry(0)}, {key(0, 1), entry(0)}}
	x := table(t, 3, items...)
	holds(t, "entries of zeros", x, items...)
	x.Put(key(1, 0), entry(5))
	x.Put(key(1, 0), entry(0))
	holds(t, "put as zeros again", x, items...)
	flushes(t, "an entry of zeros", x, key(0, 0), true)
	flushes(t, "an entry of zeros", x, key(0, 0), false)
	flushesAsid(t, "an entry of zeros", x, 0, 1)
	flushesAll(t, "an entry of zeros", x, 1)
}

func TestKeysThatDifferInOneField(t *testing.T) { // P5.1, P5.2
	var items []kept
	for i, n := range ends() {
		items = append(items, kept{key(n, 7), entry(i)}, kept{key(7, n), entry(100 + i)})
	}
	x := table(t, len(items), items...)
	holds(t, "keys that differ in one field", x, items...)
	lacks(t, "keys that differ in one field", x, key(7, 7), key(6, 7), key(7, 6))
	for i := 0; i < len(items); i += 2 {
		asid := items[i].k.Asid
		flushes(t, "one of them", x, key(asid, 7), true)
		flushes(t, "one of them", x, key(asid, 7), false)
	}
	var want []kept
	for i := 1; i < len(items); i += 2 {
		want = append(want, items[i])
	}
	holds(t, "those that are left", x, want...)
}

func TestNumbersAtTheirEnds(t *testing.T) { // P5.1, P5.2
	var items []kept
	for i, a := range ends() {
		for j, b := range ends() {
			// an entry is kept as it is handed in, whatever its numbers are
			items = append(items, kept{key(a, b), api.PTE{Flags: ends()[j], PPN: ends()[(i+j)%len(ends())]}})
		}
	}
	x := table(t, maxSize, items...)
	holds(t, "numbers at their ends", x, items...)
	left := len(items)
	for _, a := range ends() {
		flushesAsid(t, "numbers at their ends", x, a, len(ends()))
		left -= len(ends())
		if x.Len() != left {
			t.Errorf("Len behind FlushAsid(%d): %d, want %d", a, x.Len(), left)
		}
	}
}

func TestKeysAreNewMemory(t *testing.T) { // P5.2, R3
	items := row(1, 4, 2, 3)
	for _, size := range []int{3, 4, maxSize} {
		x := table(t, size, items...)
		a, b := x.Keys(), x.Keys()
		room := a[:cap(a)]
		for i := range room {
			room[i] = key(8, 8)
		}
		holds(t, "a list that its caller changed", x, items...)
		if !slices.Equal(b, []tlb.Key{key(1, 4), key(1, 2), key(1, 3)}) {
			t.Errorf("another list: %v", b)
		}
		_ = append(b, key(9, 9))
		holds(t, "a list that its caller went on with", x, items...)
		x.Put(key(5, 5), entry(5))
		x.Put(key(1, 2), entry(6))
		flushes(t, "behind a change of a list", x, key(1, 2), true)
		flushes(t, "behind a change of a list", x, key(9, 9), false)
		lacks(t, "behind a change of a list", x, key(8, 8), key(9, 9))
	}
}

func TestKeysStayAsTheyWereTold(t *testing.T) { // P5.2, R3
	changes := []struct {
		what string
		do   func(x *tlb.Table)
	}{
		{"Put of a new one", func(x *tlb.Table) { x.Put(key(2, 2), entry(1)) }},
		{"Put of one that is kept", func(x *tlb.Table) { x.Put(key(1, 2), entry(1)) }},
		{"Flush of the eldest", func(x *tlb.Table) { x.Flush(key(1, 4)) }},
		{"Flush of one between", func(x *tlb.Table) { x.Flush(key(1, 2)) }},
		{"FlushAsid", func(x *tlb.Table) { x.FlushAsid(1) }},
		{"FlushAll, and Puts", func(x *tlb.Table) {
			x.FlushAll()
			for n := range 9 {
				x.Put(key(3, n), entry(n))
			}
		}},
	}
	for _, c := range changes {
		for _, size := range []int{3, 4, maxSize} {
			x := table(t, size, row(1, 4, 2, 3)...)
			keys := x.Keys()
			room := slices.Clone(keys[:cap(keys)])
			c.do(x)
			if !slices.Equal(keys, []tlb.Key{key(1, 4), key(1, 2), key(1, 3)}) || !slices.Equal(keys[:cap(keys)], room) {
				t.Errorf("%s: a list that was told ahead of it is %v now", c.what, keys)
			}
		}
	}
}

// model is a table as a plain list, with nothing kept beside it.
type model struct {
	size  int
	items []kept
}

func (m *model) at(k tlb.Key) int {
	return slices.IndexFunc(m.items, func(i kept) bool { return i.k == k })
}

func (m *model) put(k tlb.Key, e api.PTE) {
	if at := m.at(k); at >= 0 {
		m.items[at].e = e
		return
	}
	m.items = append(m.items, kept{k, e})
	if len(m.items) > m.size {
		m.items = m.items[1:]
	}
}

func (m *model) drop(goes func(k tlb.Key) bool) int {
	var left []kept
	for _, i := range m.items {
		if !goes(i.k) {
			left = append(left, i)
		}
	}
	n := len(m.items) - len(left)
	m.items = left
	return n
}

// step does one thing to both a table and a model, and tells what each answered; what it is hangs on r alone.
func step(x *tlb.Table, m *model, r uint32) (got, want int) {
	k := key(int(r>>8%4)-1, int(r>>16%5))
	switch r % 32 {
	case 0:
		return x.FlushAll(), m.drop(func(tlb.Key) bool { return true })
	case 1, 2:
		return x.FlushAsid(k.Asid), m.drop(func(i tlb.Key) bool { return i.Asid == k.Asid })
	case 3, 4, 5, 6, 7, 8:
		if x.Flush(k) {
			got = 1
		}
		return got, m.drop(func(i tlb.Key) bool { return i == k })
	}
	e := entry(int(r >> 20))
	x.Put(k, e)
	m.put(k, e)
	return 0, 0
}

func TestAgainstPlainLists(t *testing.T) { // P5.1, P5.2, P5.3
	for _, size := range []int{0, 1, 2, 3, 7, 19, 20, 21} {
		x, m := table(t, size), &model{size: size}
		r := uint32(size + 7)
		for i := range 4000 {
			r = r*1664525 + 1013904223
			what := "size " + strconv.Itoa(size) + ", step " + strconv.Itoa(i)
			if got, want := step(x, m, r^r>>16); got != want {
				t.Fatalf("%s: %d, want %d", what, got, want)
			}
			holds(t, what, x, m.items...)
			for n := range 24 {
				if k := key(n/5-1, n%5); m.at(k) < 0 {
					lacks(t, what, x, k)
				}
			}
		}
	}
}

func TestWhatWasPutLastIsFound(t *testing.T) { // P5.3
	x := table(t, 3)
	for n := range 50 {
		k := key(n%3, 4)
		x.Put(k, entry(n))
		if e, ok := x.Find(k); e != entry(n) || !ok {
			t.Errorf("Find behind Put %d: %v, %v", n, e, ok)
		}
		if n%4 == 3 {
			flushes(t, "behind Put", x, k, true)
			lacks(t, "behind Flush", x, k)
		}
	}
}

func TestTableThatNoCallMade(t *testing.T) { // R5
	for what, x := range map[string]*tlb.Table{"nil": nil, "zero": {}, "New(-1)": tlb.New(-1), "New(1025)": tlb.New(maxSize + 1)} {
		for range 2 {
			for _, n := range ends() {
				x.Put(key(n, 0), entry(1))
				x.Put(key(0, n), entry(0))
				lacks(t, what, x, key(n, 0), key(0, n))
				flushes(t, what, x, key(n, 0), false)
				flushesAsid(t, what, x, n, 0)
			}
			flushesAll(t, what, x, 0)
			holds(t, what, x)
		}
	}
}
