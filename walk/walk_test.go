package walk_test

import (
	"iter"
	"math"
	"slices"
	"testing"

	"pantry/api"
	"pantry/phys"
	"pantry/pte"
	"pantry/walk"
)

const (
	allVPN  = 1<<27 - 1
	allPPN  = 1<<44 - 1
	noFrame = 9 // the first number that is no frame of the memories here
)

// strange has the bits of a word that an entry has not.
const strange = uint64(3<<8 | 1023<<54)

// word is an entry as it stands in a table, as the chapters say it in numbers.
func word(flags, ppn int) uint64 { return uint64(ppn)*1024 + uint64(flags) }

// entry is what a word tells.
func entry(flags, ppn int) api.PTE { return api.PTE{Flags: flags, PPN: ppn} }

// Flags of entries that are tables, leaves and none. What is U, G, A or D doesn't change that.
func tables() []int {
	return []int{api.V, api.V | api.U, api.V | api.G, api.V | api.A | api.D, api.V | api.U | api.G | api.A | api.D}
}

func leaves() []int {
	return []int{
		api.V | api.R, api.V | api.X, api.V | api.R | api.X, api.V | api.R | api.W, api.V | api.R | api.W | api.X,
		api.V | api.R | api.U, api.V | api.X | api.G, api.V | api.R | api.W | api.X | api.U | api.G | api.A | api.D,
	}
}

func nones() []int {
	return []int{
		0, api.R, api.X, api.W, api.R | api.W | api.X, api.U, api.G | api.A | api.D, 255 &^ api.V,
		api.V | api.W, api.V | api.W | api.X, api.V | api.W | api.X | api.U | api.A | api.D,
	}
}

// outside has numbers that are no frames of a memory of noFrame frames, and that an entry has room for.
func outside() []int {
	return []int{noFrame, noFrame + 1, 255, 256, 257, 1 << 31, 1 << 32, 1<<32 + 1, 1 << 43, allPPN - 1, allPPN}
}

// wrongRoots has numbers that are no frames of a memory of noFrame frames.
func wrongRoots() []int {
	return append(outside(), -1, -2, -noFrame, math.MinInt, math.MaxInt, 1<<44, 1<<44+1, 1<<60)
}

// wrongVPNs has numbers that no page has. The lowest bits of some are those of pages that have a leaf.
func wrongVPNs() []int {
	return []int{allVPN + 1, allVPN + 2, allVPN + 6, 1<<28 - 1, 1<<32 + 5, 1 << 36, math.MaxInt, -1, -2, -512, -1<<27 + 5, -1 << 27, math.MinInt, math.MinInt + 5}
}

// chapter is the memory of the chapter's example, with more frames than it needs: frames 0, 1 and 2 are the tables of
// vpn 5, which has the entry.
func chapter(t *testing.T, flags, ppn int) *phys.Memory {
	t.Helper()
	m := phys.New(noFrame)
	set(t, m, 0, 0, word(api.V, 1))
	set(t, m, 1, 0, word(api.V, 2))
	set(t, m, 2, 5, word(flags, ppn))
	return m
}

// deep is a memory in which these vpns have a leaf V, R, W, U of frame 8, by tables of their own, from frame 0 on.
func deep(t *testing.T, vpns ...int) *phys.Memory {
	t.Helper()
	m, taken := phys.New(noFrame), 1
	for _, vpn := range vpns {
		frame := 0
		for _, index := range []int{vpn >> 18, vpn >> 9 & 511} {
			next := int(get(t, m, frame, index) / 1024)
			if next == 0 {
				next, taken = taken, taken+1
				set(t, m, frame, index, word(api.V, next))
			}
			frame = next
		}
		set(t, m, frame, vpn&511, word(api.V|api.R|api.W|api.U, 8))
	}
	if taken > 8 {
		t.Fatalf("%d tables: no frame is left for the leaves", taken)
	}
	return m
}

func set(t *testing.T, m *phys.Memory, frame, i int, v uint64) {
	t.Helper()
	if !m.SetWord(frame, i, v) {
		t.Fatalf("SetWord(%d, %d): false", frame, i)
	}
}

func get(t *testing.T, m *phys.Memory, frame, i int) uint64 {
	t.Helper()
	v, ok := m.Word(frame, i)
	if !ok {
		t.Fatalf("Word(%d, %d): false", frame, i)
	}
	return v
}

// twin is a memory with the same bytes.
func twin(m *phys.Memory) *phys.Memory {
	c := phys.New(m.Frames())
	for f := range m.Frames() {
		c.Fill(f, m.Page(f))
	}
	return c
}

// alike asks whether two memories have the same bytes.
func alike(t *testing.T, what string, got, want *phys.Memory) {
	t.Helper()
	for f := range want.Frames() {
		if slices.Equal(got.Page(f), want.Page(f)) {
			continue
		}
		for i := range 512 {
			if g, w := get(t, got, f, i), get(t, want, f, i); g != w {
				t.Errorf("%s: word %d of frame %d: %#x, want %#x", what, i, f, g, w)
			}
		}
	}
}

// places asks Place for a frame and an index.
func places(t *testing.T, m *phys.Memory, root, vpn, frame, index int) {
	t.Helper()
	if f, i, ok := walk.Place(m, root, vpn); f != frame || i != index || !ok {
		t.Errorf("Place(%d, %d): %d, %d, %v, want %d, %d, true", root, vpn, f, i, ok, frame, index)
	}
}

// looks asks Look for an entry.
func looks(t *testing.T, m *phys.Memory, root, vpn int, want api.PTE) {
	t.Helper()
	if e, ok := walk.Look(m, root, vpn); e != want || !ok {
		t.Errorf("Look(%d, %d): %+v, %v, want %+v, true", root, vpn, e, ok, want)
	}
}

// noPlace asks whether Place and Look tell nothing.
func noPlace(t *testing.T, m *phys.Memory, root, vpn int) {
	t.Helper()
	if f, i, ok := walk.Place(m, root, vpn); f != 0 || i != 0 || ok {
		t.Errorf("Place(%d, %d): %d, %d, %v, want 0, 0, false", root, vpn, f, i, ok)
	}
	if e, ok := walk.Look(m, root, vpn); e != (api.PTE{}) || ok {
		t.Errorf("Look(%d, %d): %+v, %v, want nothing", root, vpn, e, ok)
	}
}

// access is what a Walk asks for.
type access struct {
	root, va, how int
	user          bool
}

// finds asks Walk for a frame and a byte.
func finds(t *testing.T, m *phys.Memory, a access, frame, at int) {
	t.Helper()
	if what, f, b := walk.Walk(m, a.root, a.va, a.how, a.user); what != walk.Found || f != frame || b != at {
		t.Errorf("Walk(%+v): %d, %d, %d, want Found, %d, %d", a, what, f, b, frame, at)
	}
}

// fails asks whether Walk finds nothing, for that reason, and writes nothing.
func fails(t *testing.T, m *phys.Memory, a access, why int) {
	t.Helper()
	before := twin(m)
	if what, f, b := walk.Walk(m, a.root, a.va, a.how, a.user); what != why || f != 0 || b != 0 {
		t.Errorf("Walk(%+v): %d, %d, %d, want %d, 0, 0", a, what, f, b, why)
	}
	alike(t, "behind a Walk that found nothing", m, before)
}

func TestNumbersOfAnswers(t *testing.T) { // P4.2
	if got := [4]int{walk.Found, walk.Empty, walk.Wrong, walk.Denied}; got != [4]int{0, 1, 2, 3} {
		t.Errorf("Found, Empty, Wrong, Denied: %v", got)
	}
}

func TestPlace(t *testing.T) { // P4.1
	m := chapter(t, api.V|api.R|api.U, 3)
	places(t, m, 0, 5, 2, 5)
	places(t, m, 0, 0, 2, 0)
	places(t, m, 0, 511, 2, 511)
	noPlace(t, m, 0, 512)
	noPlace(t, m, 0, 512+5)
	noPlace(t, m, 0, 1<<18)
	noPlace(t, m, 0, 1<<18+5)
}

// edges has the vpns at which an index begins or ends.
func edges() []int { return []int{0, 511, 512, 1<<18 - 1, 1 << 18, 1<<26 - 1, 1 << 26, allVPN} }

func TestPlaceOfEdges(t *testing.T) { // P4.1
	for _, vpn := range edges() {
		m := deep(t, vpn)
		places(t, m, 0, vpn, 2, vpn%512)
		looks(t, m, 0, vpn, entry(api.V|api.R|api.W|api.U, 8))
		for _, other := range edges() {
			if other/512 != vpn/512 {
				noPlace(t, m, 0, other)
			} else {
				places(t, m, 0, other, 2, other%512)
			}
		}
	}
	m := deep(t, 0, 1<<18, allVPN)
	places(t, m, 0, 0, 2, 0)
	places(t, m, 0, 1<<18, 4, 0)
	places(t, m, 0, allVPN, 6, 511)
}

func TestPlaceOfOtherRoots(t *testing.T) { // P4.1
	m := phys.New(noFrame)
	set(t, m, 8, 1, word(api.V, 7))
	set(t, m, 7, 2, word(api.V, 0))
	set(t, m, 0, 3, word(api.V|api.R, 1))
	set(t, m, 4, 1, word(api.V, 7))
	vpn := 1<<18 + 2<<9 + 3
	places(t, m, 8, vpn, 0, 3)
	places(t, m, 4, vpn, 0, 3)
	looks(t, m, 8, vpn, entry(api.V|api.R, 1))
	noPlace(t, m, 7, vpn)
	noPlace(t, m, 0, vpn)
}

func TestPlaceOfNoVPN(t *testing.T) { // P4.1
	m := deep(t, 0, 5, allVPN)
	for _, vpn := range wrongVPNs() {
		noPlace(t, m, 0, vpn)
	}
}

func TestPlaceOfNoRoot(t *testing.T) { // P4.1
	m := chapter(t, api.V|api.R|api.U, 3)
	for _, root := range wrongRoots() {
		noPlace(t, m, root, 5)
		noPlace(t, m, root, 0)
		noPlace(t, m, root, -1)
	}
}

// upper has the places of the entries of levels 2 and 1 of the chapter's memory, with the tables they stand for.
func upper() [][2]int { return [][2]int{{0, 1}, {1, 2}} }

func TestPlaceByTables(t *testing.T) { // P4.1
	for _, u := range upper() {
		for _, flags := range tables() {
			for _, more := range []uint64{0, 1 << 8, 1 << 9, 1 << 54, 1 << 63, strange} {
				m := chapter(t, api.V|api.R|api.U, 3)
				set(t, m, u[0], 0, word(flags, u[1])|more)
				places(t, m, 0, 5, 2, 5)
				looks(t, m, 0, 5, entry(api.V|api.R|api.U, 3))
				for _, ppn := range outside() {
					set(t, m, u[0], 0, word(flags, ppn)|more)
					noPlace(t, m, 0, 5)
				}
			}
		}
	}
}

func TestPlaceByNoTables(t *testing.T) { // P4.1
	for _, u := range upper() {
		for _, flags := range append(nones(), leaves()...) {
			for _, ppn := range append(outside(), 0, u[1], 8) {
				m := chapter(t, api.V|api.R|api.U, 3)
				set(t, m, u[0], 0, word(flags, ppn))
				noPlace(t, m, 0, 5)
				fails(t, m, access{0, 5 * 4096, api.Read, true}, walk.Empty)
			}
		}
	}
}

func TestLook(t *testing.T) { // P4.1: whatever stands there
	for _, flags := range slices.Concat(nones(), tables(), leaves(), []int{255}) {
		for _, ppn := range append(outside(), 0, 3, 8) {
			m := chapter(t, flags, ppn)
			before := twin(m)
			looks(t, m, 0, 5, entry(flags, ppn))
			places(t, m, 0, 5, 2, 5)
			looks(t, m, 0, 6, api.PTE{})
			alike(t, "behind Look and Place", m, before)
			set(t, m, 2, 5, word(flags, ppn)|strange)
			looks(t, m, 0, 5, entry(flags, ppn))
		}
	}
}

func TestWalkOfTheChapter(t *testing.T) { // P4.2, the example
	fails(t, phys.New(noFrame), access{0, 5*4096 + 7, api.Read, true}, walk.Empty)
	m := chapter(t, api.V|api.R|api.U, 3)
	finds(t, m, access{0, 5*4096 + 7, api.Read, true}, 3, 7)
	fails(t, m, access{0, 5*4096 + 7, api.Write, true}, walk.Denied)
}

func TestWalkOfEdges(t *testing.T) { // P4.2
	for _, vpn := range edges() {
		for _, at := range []int{0, 1, 7, 4094, 4095} {
			va := vpn*4096 + at
			if vpn >= 1<<26 {
				va -= 1 << 39 // bit 38 is set, so those above are
			}
			m := deep(t, vpn)
			finds(t, m, access{0, va, api.Read, true}, 8, at)
			looks(t, m, 0, vpn, entry(api.V|api.R|api.W|api.U|api.A, 8))
			for bit := 39; bit < 64; bit++ {
				fails(t, m, access{0, va ^ 1<<bit, api.Read, true}, walk.Wrong)
			}
			fails(t, m, access{0, va ^ 1<<38, api.Read, true}, walk.Wrong)
			fails(t, m, access{0, va ^ 4096, api.Read, true}, walk.Empty)
		}
	}
}

func TestWalkOfWrong(t *testing.T) { // P4.2
	m := deep(t, 0, 5, 1<<26, allVPN)
	for _, va := range []int{1 << 38, 1<<38 + 4096*5, 1<<39 - 1, 1 << 39, 1<<39 + 5*4096, 1 << 40, 1 << 62, math.MaxInt, math.MinInt, -1<<38 - 1, -1 << 39, -1<<39 + 5*4096} {
		fails(t, m, access{0, va, api.Read, true}, walk.Wrong)
		fails(t, m, access{1, va, api.Write, false}, walk.Wrong)
		fails(t, m, access{noFrame, va, 0, false}, walk.Wrong)
	}
	for _, root := range wrongRoots() {
		fails(t, m, access{root, 5 * 4096, api.Read, true}, walk.Wrong)
		fails(t, m, access{root, -1, api.Read, true}, walk.Wrong)
		fails(t, m, access{root, 5 * 4096, 0, true}, walk.Wrong)
	}
	finds(t, m, access{0, -1, api.Write, true}, 8, 4095)
	finds(t, m, access{0, -1 << 38, api.Write, true}, 8, 0)
}

func TestWalkOfEmpty(t *testing.T) { // P4.2
	accesses := []access{{0, 5 * 4096, api.Read, true}, {0, 5*4096 + 1, api.Write, false}, {0, 5*4096 + 2, api.Exec, true}, {0, 5 * 4096, 0, true}}
	for _, a := range accesses {
		for _, ppn := range append(outside(), 0, 3, 8) {
			for _, flags := range append(nones(), tables()...) {
				fails(t, chapter(t, flags, ppn), a, walk.Empty)
			}
		}
		for _, ppn := range outside() { // even where nothing would be allowed
			for _, flags := range leaves() {
				fails(t, chapter(t, flags, ppn), a, walk.Empty)
			}
		}
		for _, frame := range []int{0, 1} {
			m := chapter(t, api.V|api.R|api.W|api.U, 3)
			set(t, m, frame, 0, 0)
			fails(t, m, a, walk.Empty)
		}
	}
}

// lets tells what leaves let do, in numbers.
func lets(flags, how int, user bool) bool {
	right := map[int]int{1: 2, 2: 4, 4: 8}[how]
	return flags&right != 0 && (flags&16 != 0) == user
}

func TestWalkOfLeaves(t *testing.T) { // P4.2
	for _, flags := range leaves() {
		for _, how := range []int{api.Read, api.Write, api.Exec} {
			for _, user := range []bool{false, true} {
				m := chapter(t, flags, 8)
				a := access{0, 5*4096 + 100, how, user}
				if !lets(flags, how, user) {
					fails(t, m, a, walk.Denied)
					continue
				}
				finds(t, m, a, 8, 100)
			}
		}
	}
}

func TestWalkOfNoAccess(t *testing.T) { // P4.2
	for _, how := range []int{0, 3, 5, 6, 7, 8, 9, 16, -1, -2, -4, 1<<32 + 1, math.MinInt, math.MaxInt} {
		for _, user := range []bool{false, true} {
			fails(t, chapter(t, api.V|api.R|api.W|api.X, 3), access{0, 5 * 4096, how, user}, walk.Denied)
			fails(t, chapter(t, api.V|api.R|api.W|api.X|api.U, 3), access{0, 5 * 4096, how, user}, walk.Denied)
		}
	}
}

// used has the flags that an access leaves behind, in numbers.
func used(how int) int {
	if how == 2 {
		return 64 + 128
	}
	return 64
}

func TestWalkSetsAAndD(t *testing.T) { // P4.2, P4.4
	base := api.V | api.R | api.W | api.X | api.U
	for _, had := range []int{0, api.A, api.D, api.A | api.D, api.G, api.G | api.A | api.D} {
		for _, how := range []int{api.Read, api.Write, api.Exec} {
			for _, more := range []uint64{0, 1 << 8, 1 << 9, 1 << 54, 1 << 63, strange} {
				m := chapter(t, base|had, 8)
				m.Fill(8, slices.Repeat([]byte{9}, 4096))
				set(t, m, 2, 4, math.MaxUint64)
				set(t, m, 2, 6, math.MaxUint64)
				set(t, m, 2, 5, word(base|had, 8)|more)
				want := twin(m)
				set(t, want, 2, 5, word(base|had|used(how), 8)|more)
				for range 2 {
					finds(t, m, access{0, 5*4096 + 4095, how, true}, 8, 4095)
					alike(t, "behind a Walk that found", m, want)
				}
				looks(t, m, 0, 5, entry(base|had|used(how), 8))
			}
		}
	}
}

func TestWalkKeepsTablesAbove(t *testing.T) { // P4.4: neither A nor D of a table is set
	m := chapter(t, api.V|api.R|api.W|api.U, 8)
	finds(t, m, access{0, 5 * 4096, api.Write, true}, 8, 0)
	if a, b := get(t, m, 0, 0), get(t, m, 1, 0); a != word(api.V, 1) || b != word(api.V, 2) {
		t.Errorf("the tables above: %#x, %#x", a, b)
	}
}

func TestWalkOneByOne(t *testing.T) { // P4.2, P4.4
	m := chapter(t, api.V|api.R|api.W|api.X|api.U, 8)
	at := access{0, 5 * 4096, 0, true}
	for _, c := range []struct{ how, flags int }{{api.Exec, api.A}, {api.Read, api.A}, {api.Write, api.A | api.D}, {api.Read, api.A | api.D}} {
		at.how = c.how
		finds(t, m, at, 8, 0)
		looks(t, m, 0, 5, entry(api.V|api.R|api.W|api.X|api.U|c.flags, 8))
	}
}

func TestWalkOfSharedTables(t *testing.T) { // P4.2: what stands in several entries is one table
	m := phys.New(noFrame)
	for _, i := range []int{0, 3, 511} {
		set(t, m, 0, i, word(api.V, 1))
		set(t, m, 1, i, word(api.V, 2))
	}
	set(t, m, 2, 7, word(api.V|api.R|api.W|api.U, 8))
	vpn := 3<<18 + 511<<9 + 7
	places(t, m, 0, vpn, 2, 7)
	finds(t, m, access{0, vpn*4096 + 1, api.Write, true}, 8, 1)
	for _, i2 := range []int{0, 3, 511} {
		for _, i1 := range []int{0, 3, 511} {
			looks(t, m, 0, i2<<18+i1<<9+7, entry(api.V|api.R|api.W|api.U|api.A|api.D, 8))
		}
	}
}

// own is a memory in which frame 1 is a table in its own entry 2, and has a leaf of itself in entry 5.
func own(t *testing.T) *phys.Memory {
	t.Helper()
	m := phys.New(noFrame)
	set(t, m, 1, 2, word(api.V, 1))
	set(t, m, 1, 5, word(api.V|api.R|api.W|api.U, 1))
	return m
}

func TestWalkOfATableThatIsItsOwn(t *testing.T) { // P4.1, P4.2
	m := own(t)
	vpn := 2<<18 + 2<<9 + 5
	places(t, m, 1, vpn, 1, 5)
	looks(t, m, 1, vpn-3, entry(api.V, 1))
	noPlace(t, m, 1, 5)
	noPlace(t, m, 1, 2<<18+5<<9+5)
	noPlace(t, m, 1, 5<<18+2<<9+5)
	fails(t, m, access{1, (vpn - 3) * 4096, api.Read, true}, walk.Empty)
	finds(t, m, access{1, vpn*4096 + 40, api.Write, true}, 1, 40)
	looks(t, m, 1, vpn, entry(api.V|api.R|api.W|api.U|api.A|api.D, 1))
}

// told is a vpn with its entry.
type told struct {
	vpn   int
	entry api.PTE
}

func collect(s iter.Seq2[int, api.PTE]) []told {
	var all []told
	for vpn, e := range s {
		all = append(all, told{vpn, e})
	}
	return all
}

// tells asks whether Leaves tells these, by what it told, and by going over it again.
func tells(t *testing.T, what string, s iter.Seq2[int, api.PTE], want ...told) {
	t.Helper()
	for range 2 {
		if got := collect(s); !slices.Equal(got, want) {
			t.Errorf("%s: %v, want %v", what, got, want)
		}
	}
}

func TestLeaves(t *testing.T) { // P4.3
	m := phys.New(noFrame)
	tells(t, "Leaves of noughts", walk.Leaves(m, 0))
	m = chapter(t, api.V|api.R|api.U, 3)
	before := twin(m)
	tells(t, "Leaves of the chapter's memory", walk.Leaves(m, 0), told{5, entry(api.V|api.R|api.U, 3)})
	tells(t, "Leaves of another root", walk.Leaves(m, 1))
	alike(t, "behind Leaves", m, before)
	var want []told
	for _, vpn := range edges() {
		m = deep(t, vpn)
		tells(t, "Leaves of one vpn", walk.Leaves(m, 0), told{vpn, entry(api.V|api.R|api.W|api.U, 8)})
	}
	vpns := []int{allVPN, 511, 0, 1 << 26, 512, 7, 1<<26 + 511} // rising, however they were entered
	m = deep(t, vpns[1:]...)
	slices.Sort(vpns)
	for _, vpn := range vpns[:len(vpns)-1] {
		want = append(want, told{vpn, entry(api.V|api.R|api.W|api.U, 8)})
	}
	tells(t, "Leaves of several vpns", walk.Leaves(m, 0), want...)
	m = deep(t, allVPN, 511, 0)
	tells(t, "Leaves of the ends", walk.Leaves(m, 0), told{0, want[0].entry}, told{511, want[0].entry}, told{allVPN, want[0].entry})
}

func TestLeavesByKind(t *testing.T) { // P4.3
	for _, ppn := range append(outside(), 0, 8) { // a leaf is one whatever its frame is
		for _, flags := range leaves() {
			m := chapter(t, flags, ppn)
			tells(t, "Leaves of a leaf", walk.Leaves(m, 0), told{5, entry(flags, ppn)})
			set(t, m, 2, 5, word(flags, ppn)|strange)
			tells(t, "Leaves of a leaf with more bits", walk.Leaves(m, 0), told{5, entry(flags, ppn)})
		}
		for _, flags := range append(nones(), tables()...) {
			m := chapter(t, flags, ppn)
			tells(t, "Leaves of none", walk.Leaves(m, 0))
		}
	}
}

func TestLeavesByTables(t *testing.T) { // P4.3
	leaf := told{5, entry(api.V|api.R|api.U, 3)}
	for _, u := range upper() {
		m := chapter(t, leaf.entry.Flags, leaf.entry.PPN)
		for _, flags := range tables() {
			set(t, m, u[0], 0, word(flags, u[1])|strange)
			tells(t, "Leaves by a table", walk.Leaves(m, 0), leaf)
			for _, ppn := range outside() {
				set(t, m, u[0], 0, word(flags, ppn))
				tells(t, "Leaves by a table that is no frame", walk.Leaves(m, 0))
			}
		}
		for _, flags := range append(nones(), leaves()...) {
			for _, ppn := range append(outside(), 0, u[1], 8) {
				set(t, m, u[0], 0, word(flags, ppn))
				tells(t, "Leaves by no table", walk.Leaves(m, 0))
			}
		}
	}
}

func TestLeavesOfNoRoot(t *testing.T) { // P4.3
	m := chapter(t, api.V|api.R|api.U, 3)
	for _, root := range wrongRoots() {
		tells(t, "Leaves of no root", walk.Leaves(m, root))
	}
}

func TestLeavesOfAllOfATable(t *testing.T) { // P4.3
	m := chapter(t, 0, 0)
	var want []told
	for i := range 512 {
		set(t, m, 2, i, word(api.V|api.R, i))
		want = append(want, told{i, entry(api.V|api.R, i)})
	}
	tells(t, "Leaves of a full table", walk.Leaves(m, 0), want...)
}

func TestLeavesOfSharedTables(t *testing.T) { // P4.3
	m := phys.New(noFrame)
	for _, i := range []int{0, 3, 511} {
		set(t, m, 0, i, word(api.V, 1))
		set(t, m, 1, i, word(api.V, 2))
	}
	set(t, m, 2, 0, word(api.V|api.R, 8))
	set(t, m, 2, 511, word(api.V|api.X, 7))
	var want []told
	for _, i2 := range []int{0, 3, 511} {
		for _, i1 := range []int{0, 3, 511} {
			first := i2<<18 + i1<<9
			want = append(want, told{first, entry(api.V|api.R, 8)}, told{first + 511, entry(api.V|api.X, 7)})
		}
	}
	tells(t, "Leaves of shared tables", walk.Leaves(m, 0), want...)
	want = nil
	set(t, m, 1, 3, word(api.V, 1)) // frame 1 is a table of level 0 too, that has no leaf
	set(t, m, 1, 4, word(api.V|api.R, 6))
	for _, i2 := range []int{0, 3, 511} {
		first := i2 << 18
		want = append(want, told{first, entry(api.V|api.R, 8)}, told{first + 511, entry(api.V|api.X, 7)},
			told{first + 3<<9 + 4, entry(api.V|api.R, 6)},
			told{first + 511<<9, entry(api.V|api.R, 8)}, told{first + 511<<9 + 511, entry(api.V|api.X, 7)})
	}
	tells(t, "Leaves of a frame of two levels", walk.Leaves(m, 0), want...)
}

func TestLeavesOfATableThatIsItsOwn(t *testing.T) { // P4.3
	m := own(t)
	tells(t, "Leaves of a table that is its own", walk.Leaves(m, 1), told{2<<18 + 2<<9 + 5, entry(api.V|api.R|api.W|api.U, 1)})
	set(t, m, 1, 9, word(api.V, 1))
	var want []told
	for _, i2 := range []int{2, 9} {
		for _, i1 := range []int{2, 9} {
			want = append(want, told{i2<<18 + i1<<9 + 5, entry(api.V|api.R|api.W|api.U, 1)})
		}
	}
	tells(t, "Leaves of a table that is its own twice", walk.Leaves(m, 1), want...)
}

func TestLeavesThatAreManyOfFewFrames(t *testing.T) { // P4.3, R1: each vpn may have one, by three frames
	m := phys.New(3)
	for i := range 512 {
		set(t, m, 0, i, word(api.V, 1))
		set(t, m, 1, i, word(api.V, 2))
		set(t, m, 2, i, word(api.V|api.R, i))
	}
	last, n := -1, 0
	for vpn, e := range walk.Leaves(m, 0) {
		if vpn <= last || e != entry(api.V|api.R, vpn%512) {
			t.Fatalf("%d behind %d, %+v", vpn, last, e)
		}
		last, n = vpn, n+1
		if n == 3_000_000 {
			break
		}
	}
	if n != 3_000_000 || last != n-1 {
		t.Errorf("%d told, up to %d", n, last)
	}
}

// several is a memory with leaves by several tables, and what Leaves tells of it.
func several(t *testing.T) (*phys.Memory, []told) {
	t.Helper()
	vpns := []int{0, 5, 511, 512, 1 << 18, allVPN}
	var want []told
	for _, vpn := range vpns {
		want = append(want, told{vpn, entry(api.V|api.R|api.W|api.U, 8)})
	}
	return deep(t, vpns...), want
}

func TestLeavesLeftMidway(t *testing.T) { // P4.3, R3
	m, want := several(t)
	all := walk.Leaves(m, 0)
	for n := 1; n <= len(want); n++ {
		var got []told
		for vpn, e := range all {
			got = append(got, told{vpn, e})
			if len(got) == n {
				break
			}
		}
		if !slices.Equal(got, want[:n]) {
			t.Errorf("left behind %d: %v, want %v", n, got, want[:n])
		}
		tells(t, "gone over again", all, want...)
	}
	for n := range want { // none is told any more when the one who goes over them has said so
		calls := 0
		all(func(int, api.PTE) bool {
			calls++
			return calls <= n
		})
		if calls != n+1 {
			t.Errorf("told %d, want %d", calls, n+1)
		}
	}
}

func TestLeavesNested(t *testing.T) { // P4.3, R3
	m, want := several(t)
	all := walk.Leaves(m, 0)
	var outer, inner []told
	for vpn, e := range all {
		outer = append(outer, told{vpn, e})
		inner = append(inner, collect(all)...)
		for range all {
			break
		}
	}
	if !slices.Equal(outer, want) {
		t.Errorf("outer: %v, want %v", outer, want)
	}
	if !slices.Equal(inner, slices.Repeat(want, len(want))) {
		t.Errorf("inner: %v", inner)
	}
}

func TestLeavesOfAMemoryThatChanges(t *testing.T) { // P4.3, R3
	m, want := several(t)
	for _, change := range []func(){
		func() { m.SetWord(2, 5, 0) },
		func() { m.SetWord(2, 6, word(api.V|api.R, 3)) },
		func() { m.SetWord(2, 0, word(api.V|api.R, 3)) },
		func() { m.SetWord(0, 0, 0) },
		func() { m.SetWord(0, 1, word(api.V, 1)) },
		func() { m.Zero(2) },
		func() { m.Zero(0) },
		func() { m.Fill(1, slices.Repeat([]byte{255}, 4096)) },
	} {
		m, want = several(t)
		all := walk.Leaves(m, 0)
		change()
		tells(t, "changed ahead of the first one", all, want...)
		m, want = several(t)
		all = walk.Leaves(m, 0)
		var got []told
		for vpn, e := range all {
			got = append(got, told{vpn, e})
			change()
		}
		if !slices.Equal(got, want) {
			t.Errorf("changed in between: %v, want %v", got, want)
		}
		tells(t, "gone over again", all, want...)
	}
	m, want = several(t)
	all := walk.Leaves(m, 0)
	walk.Walk(m, 0, 5*4096, api.Write, true)
	tells(t, "asked for ahead of a Walk", all, want...)
	want[1].entry.Flags |= api.A | api.D
	tells(t, "asked for behind a Walk", walk.Leaves(m, 0), want...)
}

func TestNoMemory(t *testing.T) { // R5, P4.1, P4.2, P4.3
	for _, m := range []*phys.Memory{nil, {}} {
		for _, root := range append(wrongRoots(), 0, 1) {
			for _, vpn := range append(wrongVPNs(), edges()...) {
				noPlace(t, m, root, vpn)
			}
			for _, va := range []int{0, 5 * 4096, -1, 1 << 38, math.MinInt, math.MaxInt} {
				for _, how := range []int{0, api.Read, api.Write, api.Exec, -1} {
					if what, f, b := walk.Walk(m, root, va, how, true); what != walk.Wrong || f != 0 || b != 0 {
						t.Errorf("Walk of no memory: %d, %d, %d", what, f, b)
					}
				}
			}
			tells(t, "Leaves of no memory", walk.Leaves(m, root))
		}
		if m.Frames() != 0 {
			t.Errorf("a memory that no call made has %d frames", m.Frames())
		}
	}
}

// dice tells numbers below n, the same ones each time.
type dice uint64

func (d *dice) roll(n int) int {
	*d = *d*6364136223846793005 + 1442695040888963407
	return int(uint64(*d) >> 33 % uint64(n))
}

// places that entries stand in, in memories that are thrown together.
func spots() []int { return []int{0, 1, 255, 256, 511} }

// thrown is a memory of a few frames that are tables of each other, leaves and none.
func thrown(d *dice) *phys.Memory {
	m := phys.New(4)
	for f := range m.Frames() {
		for _, i := range spots() {
			v := word(d.roll(256), d.roll(5))
			switch d.roll(4) {
			case 0, 1:
				v = word(api.V|d.roll(16)*16, d.roll(5))
			case 2:
				v = word(leaves()[d.roll(len(leaves()))], d.roll(5))
			}
			m.SetWord(f, i, v|uint64(d.roll(2))*strange)
		}
	}
	return m
}

// plain tells the word of a vpn, found by the chapter's words in their order; false: there is no Place.
func plain(m *phys.Memory, root, i2, i1, i0 int) (frame int, v uint64, ok bool) {
	frame = root
	for _, index := range []int{i2, i1} {
		v, _ := m.Word(frame, index)
		frame = int(v >> 10 & allPPN)
		if v&15 != 1 || frame >= m.Frames() {
			return 0, 0, false
		}
	}
	v, ok = m.Word(frame, i0)
	return frame, v, ok
}

func TestThrownTogether(t *testing.T) { // P4.1, P4.2, P4.3, P4.4
	d := dice(1)
	for range 60 {
		m := thrown(&d)
		root := d.roll(m.Frames())
		var want []told
		for _, i2 := range spots() {
			for _, i1 := range spots() {
				for _, i0 := range spots() {
					vpn := i2<<18 + i1<<9 + i0
					frame, v, ok := plain(m, root, i2, i1, i0)
					if !ok {
						noPlace(t, m, root, vpn)
						continue
					}
					places(t, m, root, vpn, frame, i0)
					e := pte.Decode(v)
					looks(t, m, root, vpn, e)
					if pte.Kind(e) == 2 {
						want = append(want, told{vpn, e})
					}
				}
			}
		}
		tells(t, "Leaves of what is thrown together", walk.Leaves(m, root), want...)
		throwWalks(t, &d, m, root)
	}
}

// throwWalks asks for addresses of a memory that is thrown together.
func throwWalks(t *testing.T, d *dice, m *phys.Memory, root int) {
	t.Helper()
	for range 100 {
		i2, i1, i0 := spots()[d.roll(5)], spots()[d.roll(5)], spots()[d.roll(5)]
		at, user, how := d.roll(4096), d.roll(2) == 0, 1<<d.roll(3)
		a := access{root, (i2<<18+i1<<9+i0)*4096 + at - i2>>8<<39, how, user}
		frame, v, ok := plain(m, root, i2, i1, i0)
		e := pte.Decode(v)
		switch {
		case !ok || pte.Kind(e) != 2 || e.PPN >= m.Frames():
			fails(t, m, a, walk.Empty)
		case !lets(e.Flags, how, user):
			fails(t, m, a, walk.Denied)
		default:
			want := twin(m)
			set(t, want, frame, i0, v|uint64(used(how)))
			finds(t, m, a, e.PPN, at)
			alike(t, "behind a Walk that found", m, want)
			looks(t, m, root, i2<<18+i1<<9+i0, entry(e.Flags|used(how), e.PPN))
		}
	}
}
