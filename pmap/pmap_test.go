package pmap_test

import (
	"bytes"
	"iter"
	"maps"
	"math"
	"slices"
	"strconv"
	"testing"

	"pantry/api"
	"pantry/frames"
	"pantry/phys"
	"pantry/pmap"
	"pantry/pte"
	"pantry/walk"
)

const (
	words    = 512
	level1At = 512       // so many vpns have one table of level 0
	level2At = 512 * 512 // so many have one of level 1
	user     = api.V | api.U
)

// strange has the bits of a word that an entry has not.
const strange = uint64(3<<8 | 1023<<54)

// word is an entry as it stands in a table, as the chapters say it in numbers.
func word(flags, ppn int) uint64 { return uint64(ppn)*1024 + uint64(flags) }

// ends are numbers at their ends, and some that differ in their highest bits alone.
func ends() []int {
	return []int{0, 1, -1, 5, 1<<32 + 5, 5 - 1<<32, 1 << 31, -1 << 31, 1 << 62, math.MaxInt, math.MinInt, math.MinInt + 5}
}

// wrongVPNs has numbers of pages that may not be Entered. The lowest bits of some are those of vpn 5.
func wrongVPNs() []int {
	return []int{-1, -2, api.MaxVPN, api.MaxVPN + 5, 1<<27 - 1, 1 << 27, 1<<27 + 5, 1<<32 + 5, 5 - 1<<27, math.MaxInt, math.MinInt, math.MinInt + 5}
}

// wrongProts has numbers that Enter may not have as its prot.
func wrongProts() []int {
	return []int{0, 8, 9, 15, 16, -1, -7, 1<<32 + 1, math.MaxInt, math.MinInt, math.MinInt + 1}
}

// noFrames has numbers that are no frames of a memory of so many.
func noFrames(past int) []int {
	return []int{-1, -2, past, past + 1, api.MaxFrames, 1 << 32, 1<<32 + 1, 1 << 44, 1<<44 + 1, math.MaxInt, math.MinInt, math.MinInt + 1}
}

// leafFlags are the flags of the leaf of a page, by its prot, as chapter 3 says them.
func leafFlags(prot int) int {
	return map[int]int{
		1: user | api.R, 2: user | api.R | api.W, 3: user | api.R | api.W, 4: user | api.X,
		5: user | api.R | api.X, 6: user | api.R | api.W | api.X, 7: user | api.R | api.W | api.X,
	}[prot]
}

// world is a memory, what its frames are, and spaces in it.
type world struct {
	t *testing.T
	m *phys.Memory
	p *frames.Pool
}

// dirty is a world of so many frames, all Free, that have no nought.
func dirty(t *testing.T, n int) world {
	t.Helper()
	w := world{t, phys.New(n), frames.New(n, 0)}
	for i := range n {
		w.m.Fill(i, bytes.Repeat([]byte{byte(0xA1 + i%32)}, api.PageSize))
	}
	return w
}

// space is a new space in a world.
func (w world) space(asid int) *pmap.Map {
	w.t.Helper()
	x, err := pmap.New(w.m, w.p, asid)
	if x == nil || err != api.OK {
		w.t.Fatalf("New: %v, %v, want a space", x, err)
	}
	return x
}

// fill takes frames away till so many are Free, and tells those that were taken.
func (w world) fill(left int) []int {
	w.t.Helper()
	var taken []int
	for w.p.Free() > left {
		f, err := w.p.Take(frames.Loose, 1, 1)
		if err != api.OK {
			w.t.Fatalf("Take: %v", err)
		}
		taken = append(taken, f)
	}
	return taken
}

// shot is all that a world has.
type shot struct {
	pages [][]byte
	pool  []frames.Frame
}

func (w world) shot() shot {
	var s shot
	for i := range w.m.Frames() {
		s.pages = append(s.pages, w.m.Page(i))
	}
	for i := 0; ; i++ {
		f, ok := w.p.Get(i)
		if !ok {
			return s
		}
		s.pool = append(s.pool, f)
	}
}

// unchanged asks whether a world has what it had.
func (w world) unchanged(what string, s shot) {
	w.t.Helper()
	now := w.shot()
	for i := range s.pages {
		if !bytes.Equal(s.pages[i], now.pages[i]) {
			w.t.Fatalf("%s: the bytes of frame %d have changed", what, i)
		}
	}
	if !slices.Equal(s.pool, now.pool) {
		w.t.Fatalf("%s: frames are %v, want %v", what, now.pool, s.pool)
	}
}

// words asks for the words of a table: those that are given, and noughts.
func (w world) words(what string, table int, want map[int]uint64) {
	w.t.Helper()
	for i := range words {
		if v, ok := w.m.Word(table, i); v != want[i] || !ok {
			w.t.Fatalf("%s: word %d of frame %d is %#x, %v, want %#x, true", what, i, table, v, ok, want[i])
		}
	}
}

// is asks what a frame is.
func (w world) is(what string, frame, class, owner, index int) {
	w.t.Helper()
	want := frames.Frame{Class: class, Owner: owner, Index: index}
	if class == frames.Free {
		want = frames.Frame{}
	}
	if f, ok := w.p.Get(frame); f != want || !ok {
		w.t.Fatalf("%s: frame %d is %v, %v, want %v", what, frame, f, ok, want)
	}
}

// leaf is a page with its leaf.
type leaf struct {
	vpn int
	pte api.PTE
}

func collect(seq iter.Seq2[int, api.PTE]) []leaf {
	var all []leaf
	for vpn, e := range seq {
		all = append(all, leaf{vpn, e})
	}
	return all
}

// at is a leaf of a page, with these flags.
func at(vpn, flags, ppn int) leaf { return leaf{vpn, api.PTE{Flags: flags, PPN: ppn}} }

// beginnings tells the beginnings of indexes that pages have: those of the tables below the root.
func beginnings(want []leaf) (level1, level0 []int) {
	for _, l := range want {
		level1 = append(level1, l.vpn/level2At)
		level0 = append(level0, l.vpn/level1At)
	}
	return slices.Compact(level1), slices.Compact(level0)
}

// holds asks whether a space has these leaves, rising, and just the tables that they need.
func (w world) holds(what string, x *pmap.Map, asid int, want ...leaf) {
	w.t.Helper()
	if got := collect(x.All()); !slices.Equal(got, want) {
		w.t.Fatalf("%s: All: %v, want %v", what, got, want)
	}
	for _, l := range want {
		if e, ok := x.Find(l.vpn); e != l.pte || !ok {
			w.t.Fatalf("%s: Find(%d): %v, %v, want %v, true", what, l.vpn, e, ok, l.pte)
		}
		for _, near := range []int{l.vpn - 1, l.vpn + 1, l.vpn + level1At, l.vpn + level2At, l.vpn + 1<<27, l.vpn - 1<<27} {
			if slices.ContainsFunc(want, func(o leaf) bool { return o.vpn == near }) {
				continue
			}
			if e, ok := x.Find(near); e != (api.PTE{}) || ok {
				w.t.Fatalf("%s: Find(%d): %v, %v, want zeros, false", what, near, e, ok)
			}
		}
	}
	level1, level0 := beginnings(want)
	if got := x.Tables(); got != 1+len(level1)+len(level0) {
		w.t.Fatalf("%s: Tables: %d, want %d", what, got, 1+len(level1)+len(level0))
	}
	w.stands(what, x, asid, want)
}

// stands asks, word by word, whether the tables of a space are those of these leaves.
func (w world) stands(what string, x *pmap.Map, asid int, want []leaf) {
	w.t.Helper()
	level1, level0 := beginnings(want)
	w.is(what+": the root", x.Root(), frames.Table, asid, 0)
	tables := map[int]int{} // of level 1, by their beginning
	root := map[int]uint64{}
	for _, i := range level1 {
		v, _ := w.m.Word(x.Root(), i)
		tables[i] = int(v >> 10)
		root[i] = word(api.V, tables[i])
		w.is(what+": level 1", tables[i], frames.Table, asid, 1)
	}
	w.words(what+": the root", x.Root(), root)
	for _, i := range level1 {
		entries := map[int]uint64{}
		for _, j := range level0 {
			if j/words != i {
				continue
			}
			v, _ := w.m.Word(tables[i], j%words)
			table := int(v >> 10)
			entries[j%words] = word(api.V, table)
			w.is(what+": level 0", table, frames.Table, asid, 2)
			leaves := map[int]uint64{}
			for _, l := range want {
				if l.vpn/level1At == j {
					leaves[l.vpn%words] = word(l.pte.Flags, l.pte.PPN)
				}
			}
			w.words(what+": level 0", table, leaves)
		}
		w.words(what+": level 1", tables[i], entries)
	}
}

// enters asks for Enter's answer.
func (w world) enters(what string, x *pmap.Map, vpn, frame, prot int, want api.Errno) {
	w.t.Helper()
	if got := x.Enter(vpn, frame, prot); got != want {
		w.t.Fatalf("%s: Enter(%d, %d, %d): %v, want %v", what, vpn, frame, prot, got, want)
	}
}

// tells asks for an answer that is true or false.
func tells(t *testing.T, what string, got, want bool) {
	t.Helper()
	if got != want {
		t.Fatalf("%s: %v, want %v", what, got, want)
	}
}

// counts asks for an answer that is a number.
func counts(t *testing.T, what string, got, want int) {
	t.Helper()
	if got != want {
		t.Fatalf("%s: %d, want %d", what, got, want)
	}
}

func TestNew(t *testing.T) { // P7.1
	for _, n := range []int{1, 2, 12, api.MaxFrames} {
		w := dirty(t, n)
		for i := range min(n, 3) {
			x := w.space(7)
			counts(t, "Root", x.Root(), i)
			w.holds("New", x, 7)
			w.words("New", i, nil)
		}
	}
}

func TestNewOfTheLowestFrameThatIsFree(t *testing.T) { // P7.1
	w := dirty(t, 4)
	w.fill(0)
	w.p.Give(2)
	s := w.shot()
	x := w.space(3)
	counts(t, "Root", x.Root(), 2)
	w.holds("New", x, 3)
	s.pages[2] = make([]byte, api.PageSize)
	s.pool[2] = frames.Frame{Class: frames.Table, Owner: 3}
	w.unchanged("New: what is no root", s)
}

func TestNewOfAsids(t *testing.T) { // P7.1, P7.2
	for _, asid := range ends() {
		w := dirty(t, 6)
		x := w.space(asid)
		w.holds("New", x, asid)
		w.enters("an asid at its end", x, 5, 0, api.Read, api.OK)
		w.holds("Enter", x, asid, at(5, user|api.R, 0))
	}
}

func TestNewWithWhatNoCallMade(t *testing.T) { // P7.1
	m, p := phys.New(2), frames.New(2, 0)
	full := frames.New(1, 0)
	full.Take(frames.Anon, 1, 1)
	for what, c := range map[string]struct {
		m *phys.Memory
		p *frames.Pool
	}{
		"no memory": {nil, p}, "a memory that no call made": {&phys.Memory{}, p}, "New's nil": {phys.New(0), p},
		"no pool": {m, nil}, "a pool that no call made": {m, &frames.Pool{}}, "a pool of New's nil": {m, frames.New(0, 0)},
		"none of both": {nil, nil}, "no memory, and no frame is Free": {nil, full}, "a memory that no call made, and no frame is Free": {&phys.Memory{}, full},
	} {
		for _, asid := range ends() {
			if x, err := pmap.New(c.m, c.p, asid); x != nil || err != api.ErrMade {
				t.Errorf("%s: %v, %v, want nil, ErrMade", what, x, err)
			}
		}
	}
	counts(t, "frames that are Free", p.Free(), 2)
	counts(t, "frames that are Free", full.Free(), 0)
}

func TestNewWithoutAFrame(t *testing.T) { // P7.1
	w := dirty(t, 3)
	w.fill(0)
	s := w.shot()
	if x, err := pmap.New(w.m, w.p, 1); x != nil || err != api.ErrNoMem {
		t.Errorf("no frame is Free: %v, %v, want nil, ErrNoMem", x, err)
	}
	w.unchanged("New without a frame", s)
	w.p.Give(1)
	counts(t, "Root", w.space(1).Root(), 1)
}

func TestTablesTakeWhatIsKeptForThem(t *testing.T) { // P7.1, P7.2
	w := world{t, phys.New(4), frames.New(4, 3)}
	w.p.Take(frames.Anon, 1, 1)
	if _, err := w.p.Take(frames.Anon, 1, 1); err != api.ErrNoMem {
		t.Fatalf("what is kept: %v, want ErrNoMem", err)
	}
	x := w.space(1)
	w.enters("what is kept", x, 0, 0, api.Read, api.OK)
	w.holds("what is kept", x, 1, at(0, user|api.R, 0))
}

func TestPoolWithMoreFramesThanTheMemory(t *testing.T) { // P7.1, P7.2
	w := world{t, phys.New(2), frames.New(5, 0)}
	x := w.space(1)
	s := w.shot()
	w.enters("one frame of two that lack", x, 0, 1, api.Read, api.ErrNoMem)
	w.unchanged("one frame of two that lack", s)
	w.space(2)
	s = w.shot()
	if y, err := pmap.New(w.m, w.p, 3); y != nil || err != api.ErrNoMem {
		t.Errorf("no frame of the memory is Free: %v, %v, want nil, ErrNoMem", y, err)
	}
	w.enters("no frame of two that lack", x, 0, 1, api.Read, api.ErrNoMem)
	w.unchanged("no frame of the memory is Free", s)
}

func TestChaptersExample(t *testing.T) { // P7.1, P7.2, P7.3
	w := dirty(t, 12)
	x := w.space(1)
	counts(t, "New", x.Tables(), 1)
	w.enters("the first", x, 5, 9, api.Read, api.OK)
	counts(t, "Enter", x.Tables(), 3)
	w.enters("the second", x, 6, 9, api.Read, api.OK)
	counts(t, "Enter", x.Tables(), 3)
	tells(t, "Remove", x.Remove(5), true)
	counts(t, "Remove", x.Tables(), 3)
	tells(t, "Remove", x.Remove(6), true)
	counts(t, "Remove", x.Tables(), 1)
	w.holds("behind it", x, 1)
}

func TestEnter(t *testing.T) { // P7.2
	for _, vpn := range []int{0, 1, 5, 511, 512, level2At - 1, level2At, 3*level2At + 2*level1At + 1, api.MaxVPN - 1} {
		for prot := 1; prot <= 7; prot++ {
			for _, frame := range []int{0, 4, 11} {
				w := dirty(t, 12)
				x := w.space(6)
				w.enters("Enter", x, vpn, frame, prot, api.OK)
				w.holds("Enter", x, 6, at(vpn, leafFlags(prot), frame))
				w.is("the table of level 1", 1, frames.Table, 6, 1)
				w.is("the table of level 0", 2, frames.Table, 6, 2)
				counts(t, "frames that are Free", w.p.Free(), 9)
				for _, l := range []int{1, 2} { // the root is frame 0
					v, _ := w.m.Word(l-1, pte.Index(vpn, 3-l))
					counts(t, "the entry of a table", int(v), int(word(api.V, l)))
				}
			}
		}
	}
}

func TestEnterLeavesOtherFramesAsTheyAre(t *testing.T) { // P7.2
	w := dirty(t, 6)
	x := w.space(1)
	s := w.shot()
	w.enters("Enter", x, 5, 4, api.Read, api.OK)
	for i := 3; i < 6; i++ {
		if !bytes.Equal(w.m.Page(i), s.pages[i]) {
			t.Errorf("frame %d has changed", i)
		}
		w.is("a frame that was not Taken", i, frames.Free, 0, 0)
	}
}

func TestEnterIsWalked(t *testing.T) { // P7.2
	w := dirty(t, 8)
	x := w.space(1)
	w.enters("Enter", x, 600, 7, api.Write, api.OK)
	what, frame, in := walk.Walk(w.m, x.Root(), 600*api.PageSize+9, api.Write, true)
	if what != walk.Found || frame != 7 || in != 9 {
		t.Errorf("Walk: %d, %d, %d, want Found, 7, 9", what, frame, in)
	}
	w.holds("Walk", x, 1, at(600, user|api.R|api.W|api.A|api.D, 7))
}

func TestEnterWithWrongArguments(t *testing.T) { // P7.2
	w := dirty(t, 6)
	x := w.space(1)
	w.enters("one page", x, 5, 3, api.Read, api.OK)
	s := w.shot()
	for _, vpn := range wrongVPNs() {
		w.enters("no page", x, vpn, 3, api.Read, api.ErrInval)
	}
	for _, vpn := range []int{5, 6, api.MaxVPN - 1} {
		for _, prot := range wrongProts() {
			w.enters("no prot", x, vpn, 3, prot, api.ErrInval)
		}
		for _, frame := range noFrames(6) {
			w.enters("no frame", x, vpn, frame, api.Read, api.ErrInval)
		}
	}
	w.fill(0) // what may not be is wrong ahead of what there is no room for
	s = w.shot()
	for _, vpn := range wrongVPNs() {
		w.enters("no page, and no room", x, vpn, 3, api.Read, api.ErrInval)
		w.enters("nothing is right", x, vpn, -1, 0, api.ErrInval)
	}
	w.enters("no prot, and no room", x, level1At, 3, 0, api.ErrInval)
	w.enters("no frame, and no room", x, level1At, 6, 1, api.ErrInval)
	w.enters("no room", x, level1At, 5, 1, api.ErrNoMem)
	w.unchanged("Enter with errors", s)
	w.holds("Enter with errors", x, 1, at(5, user|api.R, 3))
}

func TestEnterOfAPageThatHasALeaf(t *testing.T) { // P7.2
	w := dirty(t, 6)
	x := w.space(1)
	w.enters("first", x, 5, 3, api.Write, api.OK)
	w.enters("another page", x, 6, 3, api.Read, api.OK)
	walk.Walk(w.m, x.Root(), 5*api.PageSize, api.Write, true)
	w.holds("first", x, 1, at(5, user|api.R|api.W|api.A|api.D, 3), at(6, user|api.R, 3))
	w.fill(0) // no table lacks
	w.enters("once more", x, 5, 4, api.Exec, api.OK)
	w.holds("once more", x, 1, at(5, user|api.X, 4), at(6, user|api.R, 3))
	w.enters("the same", x, 5, 4, api.Exec, api.OK)
	w.holds("the same", x, 1, at(5, user|api.X, 4), at(6, user|api.R, 3))
}

func TestEnterOverAWordThatIsNoEntry(t *testing.T) { // P7.2
	w := dirty(t, 6)
	x := w.space(1)
	for _, v := range []uint64{strange, word(api.R|api.W, 3), word(api.V|api.R, 3), word(api.V, 6), word(api.V|api.W, 1), ^uint64(0)} {
		w.m.SetWord(x.Root(), 0, v) // leads to no table of the memory
		left := w.fill(1)
		s := w.shot()
		w.enters("one frame of two", x, 5, 3, api.Read, api.ErrNoMem)
		w.unchanged("one frame of two", s)
		for _, f := range left {
			w.p.Give(f)
		}
		w.enters("a word that is no table", x, 5, 3, api.Read, api.OK)
		w.holds("a word that is no table", x, 1, at(5, user|api.R, 3))
		table, index, _ := walk.Place(w.m, x.Root(), 5)
		w.m.SetWord(table, index, v)
		w.enters("a word that is no leaf", x, 5, 4, api.Read, api.OK)
		w.holds("a word that is no leaf", x, 1, at(5, user|api.R, 4))
		tells(t, "Remove", x.Remove(5), true)
		w.holds("Remove", x, 1)
	}
}

func TestEnterOverATableAtLevel0(t *testing.T) { // P7.2, P7.3
	w := dirty(t, 6)
	x := w.space(1)
	w.enters("Enter", x, 6, 3, api.Read, api.OK)
	w.m.SetWord(2, 5, word(api.V, 1)) // no way goes on from there
	counts(t, "Tables", x.Tables(), 3)
	w.enters("over a table", x, 5, 4, api.Write, api.OK)
	w.holds("over a table", x, 1, at(5, user|api.R|api.W, 4), at(6, user|api.R, 3))
}

// lacking is a page in a space that has vpn 5, and how many tables lack on the way to it.
type lacking struct{ vpn, tables int }

func lackings() []lacking {
	return []lacking{{6, 0}, {511, 0}, {5, 0}, {512, 1}, {level2At - 1, 1}, {level2At, 2}, {api.MaxVPN - 1, 2}}
}

func TestEnterWithFewFrames(t *testing.T) { // P7.2
	for _, c := range lackings() {
		for free := range 4 {
			w := dirty(t, 9)
			x := w.space(4)
			w.enters("the first", x, 5, 8, api.Read, api.OK)
			w.fill(free)
			s := w.shot()
			what := strconv.Itoa(free) + " of " + strconv.Itoa(c.tables) + " frames"
			if free < c.tables {
				for range 3 {
					w.enters(what, x, c.vpn, 7, api.Write, api.ErrNoMem)
					w.unchanged(what, s)
				}
				w.holds(what, x, 4, at(5, user|api.R, 8))
				continue
			}
			w.enters(what, x, c.vpn, 7, api.Write, api.OK)
			counts(t, what+": Free", w.p.Free(), free-c.tables)
			want := []leaf{at(5, user|api.R, 8)}
			if c.vpn == 5 {
				want = nil
			}
			w.holds(what, x, 4, append(want, at(c.vpn, user|api.R|api.W, 7))...)
		}
	}
}

func TestEnterTakesTheHigherTableFirst(t *testing.T) { // P7.2
	w := dirty(t, 8)
	x := w.space(2)
	w.fill(0)
	w.p.Give(6)
	w.p.Give(3)
	w.enters("Enter", x, 5, 7, api.Read, api.OK)
	w.is("the lower frame", 3, frames.Table, 2, 1)
	w.is("the higher frame", 6, frames.Table, 2, 2)
	w.holds("Enter", x, 2, at(5, user|api.R, 7))
	w.p.Give(5)
	w.enters("one table lacks", x, 600, 7, api.Read, api.OK)
	w.is("the one frame", 5, frames.Table, 2, 2)
	w.holds("one table lacks", x, 2, at(5, user|api.R, 7), at(600, user|api.R, 7))
}

func TestRemove(t *testing.T) { // P7.3
	five, six, next, far := at(5, user|api.R, 9), at(6, user|api.R, 9), at(level1At, user|api.R, 9), at(level2At, user|api.R, 9)
	for _, c := range []struct {
		what string
		gone leaf
		left []leaf
	}{
		{"one of several", five, []leaf{six}},
		{"one of several, with other tables", six, []leaf{five, next, far}},
		{"the last one of a table of level 0", next, []leaf{five, six, far}},
		{"the last one of both tables", far, []leaf{five, six, next}},
		{"the last one of the space", five, nil},
		{"the last one of the space, at its end", at(api.MaxVPN-1, user|api.R, 9), nil},
	} {
		w := dirty(t, 12)
		x := w.space(1)
		for _, l := range append(slices.Clone(c.left), c.gone) {
			w.enters(c.what, x, l.vpn, 9, api.Read, api.OK)
		}
		tells(t, c.what+": Remove", x.Remove(c.gone.vpn), true)
		w.holds(c.what, x, 1, c.left...)
		counts(t, c.what+": Free", w.p.Free(), 12-x.Tables())
		s := w.shot()
		tells(t, c.what+": Remove once more", x.Remove(c.gone.vpn), false)
		w.unchanged(c.what+": Remove once more", s)
	}
}

func TestRemoveOfTheLastTableOfLevel1(t *testing.T) { // P7.3
	w := dirty(t, 12)
	x := w.space(1)
	w.enters("level 0 alone", x, 5, 9, api.Read, api.OK)
	w.enters("level 0 alone", x, level1At, 9, api.Read, api.OK) // frame 3 is its table
	tells(t, "Remove", x.Remove(5), true)
	w.is("a table of level 0 that has nothing", 2, frames.Free, 0, 0)
	w.is("the table of level 1", 1, frames.Table, 1, 1)
	w.holds("level 0 alone", x, 1, at(level1At, user|api.R, 9))
	tells(t, "Remove", x.Remove(level1At), true)
	w.is("a table of level 0 that has nothing", 3, frames.Free, 0, 0)
	w.is("a table of level 1 that has nothing", 1, frames.Free, 0, 0)
	w.holds("both", x, 1)
}

func TestRemoveHangsOnWordsNotOnLeaves(t *testing.T) { // P7.3
	w := dirty(t, 12)
	x := w.space(1)
	for i, table := range []int{2, 1} { // of level 0, of level 1
		w.enters("Enter", x, 5, 9, api.Read, api.OK)
		w.m.SetWord(table, 77, strange)
		tells(t, "Remove", x.Remove(5), true)
		counts(t, "a word that is no entry: Tables", x.Tables(), 3-i)
		w.words("the table with the word", table, map[int]uint64{77: strange})
		w.m.SetWord(table, 77, 0)
		w.enters("Enter", x, 5, 9, api.Read, api.OK)
		tells(t, "Remove", x.Remove(5), true)
		w.holds("Remove", x, 1)
	}
}

func TestRemoveOfAWordWithStrangeBits(t *testing.T) { // P7.3
	w := dirty(t, 12)
	x := w.space(1)
	w.enters("Enter", x, 5, 9, api.Read, api.OK)
	w.m.SetWord(2, 5, word(user|api.R, 9)|strange)
	tells(t, "Remove", x.Remove(5), true)
	w.words("the table", 2, nil)
	w.holds("Remove", x, 1)
}

func TestTableThatIsHeldStays(t *testing.T) { // P7.3
	w := dirty(t, 12)
	x := w.space(1)
	w.enters("Enter", x, 5, 9, api.Read, api.OK)
	w.p.Wire(2, 1)
	tells(t, "Remove", x.Remove(5), true)
	counts(t, "a table that is wired: Tables", x.Tables(), 3)
	w.words("the table that is wired", 2, nil)
	w.words("the one above it", 1, map[int]uint64{0: word(api.V, 2)})
	w.enters("a table that is wired", x, 6, 9, api.Read, api.OK)
	counts(t, "a table that is wired: Tables", x.Tables(), 3)
	w.p.Wire(2, -1)
	tells(t, "Remove", x.Remove(6), true)
	w.holds("no table is wired", x, 1)
	w.p.Loan(x.Root(), 1)
	counts(t, "Close", x.Close(), 0)
	counts(t, "Root", x.Root(), -1)
}

// touch sets A and D of a page's leaf, as flags has them.
func (w world) touch(x *pmap.Map, vpn, flags int) {
	w.t.Helper()
	table, index, ok := walk.Place(w.m, x.Root(), vpn)
	v, _ := w.m.Word(table, index)
	if !ok || !w.m.SetWord(table, index, v|uint64(flags)) {
		w.t.Fatalf("page %d has no table", vpn)
	}
}

func TestProtect(t *testing.T) { // P7.3
	for from := 1; from <= 7; from++ {
		for to := 1; to <= 7; to++ {
			for _, high := range []int{0, 8, 1 << 32, -8, math.MinInt, math.MaxInt - 7} {
				for _, used := range []int{0, api.A, api.D, api.A | api.D} {
					w := dirty(t, 8)
					x := w.space(1)
					w.enters("Protect", x, 5, 7, from, api.OK)
					w.enters("Protect", x, 6, 7, from, api.OK)
					w.touch(x, 5, used)
					tells(t, "Protect", x.Protect(5, to+high), true)
					w.holds("Protect", x, 1, at(5, leafFlags(to)|used, 7), at(6, leafFlags(from), 7))
				}
			}
		}
	}
}

func TestProtectLeavesTheOtherBits(t *testing.T) { // P7.3
	w := dirty(t, 8)
	x := w.space(1)
	w.enters("Enter", x, 5, 7, api.Read, api.OK)
	w.m.SetWord(2, 5, word(api.V|api.R|api.X|api.G|api.A, 6)|strange) // no U
	tells(t, "Protect", x.Protect(5, api.Write), true)
	w.words("Protect", 2, map[int]uint64{5: word(api.V|api.R|api.W|api.G|api.A, 6) | strange})
}

func TestProtectWithNothing(t *testing.T) { // P7.3
	for _, prot := range []int{0, 8, 16, -8, 1 << 32, 1 << 62, math.MinInt, math.MaxInt - 7} {
		w := dirty(t, 8)
		x := w.space(1)
		w.enters("Protect", x, 5, 7, api.Read, api.OK)
		w.enters("Protect", x, 6, 7, api.Read, api.OK)
		tells(t, "Protect with nothing", x.Protect(5, prot), true)
		w.holds("Protect with nothing", x, 1, at(6, user|api.R, 7))
		tells(t, "Protect with nothing, once more", x.Protect(5, prot), false)
		tells(t, "Protect with nothing", x.Protect(6, prot), true)
		w.holds("Protect with nothing", x, 1)
	}
}

func TestClear(t *testing.T) { // P7.3
	const both = api.A | api.D
	for _, has := range []int{0, api.A, api.D, both} {
		for _, flags := range []int{0, api.A, api.D, both, 255, 63, api.V, api.R | api.A, 256, -1, 1<<32 | api.D, math.MinInt, math.MaxInt} {
			w := dirty(t, 8)
			x := w.space(1)
			w.enters("Clear", x, 5, 7, api.Write, api.OK)
			w.enters("Clear", x, 6, 7, api.Write, api.OK)
			w.touch(x, 5, has)
			w.touch(x, 6, both)
			counts(t, "Clear", x.Clear(5, flags), has&flags)
			other := at(6, leafFlags(api.Write)|both, 7)
			w.holds("Clear", x, 1, at(5, leafFlags(api.Write)|has&^flags, 7), other)
			s := w.shot()
			counts(t, "Clear once more", x.Clear(5, flags), 0)
			w.unchanged("Clear once more", s)
		}
	}
}

func TestClearLeavesTheOtherBits(t *testing.T) { // P7.3
	w := dirty(t, 8)
	x := w.space(1)
	w.enters("Enter", x, 5, 7, api.Read, api.OK)
	w.m.SetWord(2, 5, word(255, 6)|strange)
	counts(t, "Clear", x.Clear(5, -1), api.A|api.D)
	w.words("Clear", 2, map[int]uint64{5: word(63, 6) | strange})
}

func TestPagesWithoutALeaf(t *testing.T) { // P7.3
	w := dirty(t, 12)
	x := w.space(1)
	w.enters("Enter", x, 5, 9, api.Write, api.OK)
	w.touch(x, 5, api.A|api.D)
	table, _, _ := walk.Place(w.m, x.Root(), 5)
	none := []uint64{word(api.V|api.A|api.D, 9), word(api.V|api.W|api.A|api.D, 9), word(api.R|api.X|api.A|api.D, 9), strange}
	for i, v := range none {
		w.m.SetWord(table, 6+i, v) // a table, W without R, no V, no bit of an entry
	}
	s := w.shot()
	for _, vpn := range append(wrongVPNs(), 0, 4, 6, 7, 8, 9, 511, 512, level2At, 5+level2At, api.MaxVPN-1) {
		what := "page " + strconv.Itoa(vpn)
		if e, ok := x.Find(vpn); e != (api.PTE{}) || ok {
			t.Errorf("%s: Find: %v, %v, want zeros, false", what, e, ok)
		}
		tells(t, what+": Remove", x.Remove(vpn), false)
		counts(t, what+": Clear", x.Clear(vpn, api.A|api.D), 0)
		for _, prot := range []int{0, 1, 7, 8, math.MinInt, math.MaxInt} {
			tells(t, what+": Protect", x.Protect(vpn, prot), false)
		}
	}
	w.unchanged("pages without a leaf", s)
	if got, want := collect(x.All()), []leaf{at(5, leafFlags(api.Write)|api.A|api.D, 9)}; !slices.Equal(got, want) {
		t.Errorf("All: %v, want %v", got, want)
	}
}

func TestFindTellsWhatStands(t *testing.T) { // P7.3
	w := dirty(t, 8)
	x := w.space(1)
	w.enters("Enter", x, 5, 7, api.Read, api.OK)
	table, index, _ := walk.Place(w.m, x.Root(), 5)
	w.m.SetWord(table, index, word(api.V|api.X|api.G, 1<<43)|strange)
	if e, ok := x.Find(5); e != (api.PTE{Flags: api.V | api.X | api.G, PPN: 1 << 43}) || !ok {
		t.Errorf("Find: %v, %v", e, ok)
	}
}

// spread is a space with pages in several tables.
func spread(t *testing.T) (world, *pmap.Map, []leaf) {
	t.Helper()
	w := dirty(t, 16)
	x := w.space(1)
	var want []leaf
	for i, vpn := range []int{0, 5, 511, 512, level2At, level2At + 1, api.MaxVPN - 1} {
		prot := i%7 + 1
		w.enters("pages in several tables", x, vpn, i, prot, api.OK)
		want = append(want, at(vpn, leafFlags(prot), i))
	}
	w.holds("pages in several tables", x, 1, want...)
	return w, x, want
}

func TestAll(t *testing.T) { // P7.3
	w, x, want := spread(t)
	all := x.All()
	for n := range len(want) + 1 { // left at any time
		var got []leaf
		for vpn, e := range all {
			if len(got) == n {
				break
			}
			got = append(got, leaf{vpn, e})
		}
		if !slices.Equal(got, want[:n]) {
			t.Fatalf("All, left behind %d: %v, want %v", n, got, want[:n])
		}
	}
	n := 0
	for vpn := range all { // nested
		for inner := range all {
			if inner == vpn {
				n++
			}
		}
	}
	counts(t, "All, nested", n, len(want))
	w.holds("All", x, 1, want...)
}

func TestAllTellsWhatWasThere(t *testing.T) { // P7.3, R3
	w, x, want := spread(t)
	all := x.All()
	for vpn := range all { // it is told as it was when All was called
		tells(t, "Remove", x.Remove(vpn), true)
	}
	w.holds("all removed", x, 1)
	w.enters("Enter", x, 7, 1, api.Read, api.OK)
	if got := collect(all); !slices.Equal(got, want) {
		t.Errorf("All, behind changes: %v, want %v", got, want)
	}
	all = x.All()
	x.Protect(7, api.Exec)
	w.touch(x, 7, api.A)
	if got, want := collect(all), []leaf{at(7, user|api.R, 1)}; !slices.Equal(got, want) {
		t.Errorf("All, behind changes: %v, want %v", got, want)
	}
	x.Close()
	if got, want := collect(all), []leaf{at(7, user|api.R, 1)}; !slices.Equal(got, want) {
		t.Errorf("All, behind Close: %v, want %v", got, want)
	}
}

func TestClose(t *testing.T) { // P7.3
	w, x, _ := spread(t)
	counts(t, "Tables", x.Tables(), 8)
	counts(t, "Close", x.Close(), 8)
	counts(t, "Free", w.p.Free(), 16)
	unmade(t, "closed", x)
	y := w.space(2)
	w.enters("another one, of the same frames", y, 5, 3, api.Read, api.OK)
	s := w.shot()
	unmade(t, "closed, with another one", x)
	w.unchanged("closed, with another one", s)
	w.holds("another one", y, 2, at(5, user|api.R, 3))
}

func TestCloseOfARootAlone(t *testing.T) { // P7.3
	w := dirty(t, 1)
	x := w.space(1)
	counts(t, "Close", x.Close(), 1)
	counts(t, "Free", w.p.Free(), 1)
	unmade(t, "closed", x)
}

func TestCloseLeavesThePages(t *testing.T) { // P7.3
	w := dirty(t, 8)
	x := w.space(1)
	w.fill(2)
	for frame := range 8 {
		w.enters("every frame", x, frame, frame, api.Read, api.OK)
	}
	counts(t, "Close", x.Close(), 3)
	counts(t, "frames of pages", w.p.Count(frames.Loose), 5)
	counts(t, "Free", w.p.Free(), 3)
}

func TestSpacesAreApart(t *testing.T) { // P7.1, P7.2, P7.3
	w := dirty(t, 20)
	a, b, c := w.space(1), w.space(2), w.space(1) // two of one asid
	w.enters("a", a, 5, 9, api.Read, api.OK)
	w.enters("b", b, 5, 10, api.Write, api.OK)
	w.enters("c", c, 5, 11, api.Exec, api.OK)
	w.enters("c", c, level2At, 9, api.Exec, api.OK)
	w.holds("a", a, 1, at(5, user|api.R, 9))
	w.holds("b", b, 2, at(5, user|api.R|api.W, 10))
	w.holds("c", c, 1, at(5, user|api.X, 11), at(level2At, user|api.X, 9))
	w.touch(b, 5, api.A)
	tells(t, "Protect", a.Protect(5, 7), true)
	counts(t, "Clear", a.Clear(5, api.A), 0)
	w.holds("b", b, 2, at(5, user|api.R|api.W|api.A, 10))
	counts(t, "Clear", b.Clear(5, api.A), api.A)
	tells(t, "Remove", c.Remove(5), true)
	w.holds("a", a, 1, at(5, user|api.R|api.W|api.X, 9))
	w.holds("b", b, 2, at(5, user|api.R|api.W, 10))
	w.holds("c", c, 1, at(level2At, user|api.X, 9))
	counts(t, "Close", a.Close(), 3)
	w.holds("b", b, 2, at(5, user|api.R|api.W, 10))
	w.holds("c", c, 1, at(level2At, user|api.X, 9))
	unmade(t, "a", a)
	counts(t, "Close", b.Close(), 3)
	counts(t, "Close", c.Close(), 3)
	counts(t, "Free", w.p.Free(), 20)
}

// unmade asks whether each call answers as of a space that no call made.
func unmade(t *testing.T, what string, x *pmap.Map) {
	t.Helper()
	for _, n := range append(ends(), wrongVPNs()...) {
		for _, err := range []api.Errno{x.Enter(n, 0, 1), x.Enter(0, n, 1), x.Enter(0, 0, n), x.Enter(n, n, n)} {
			if err != api.ErrMade {
				t.Fatalf("%s: Enter: %v, want ErrMade", what, err)
			}
		}
		if e, ok := x.Find(n); e != (api.PTE{}) || ok {
			t.Fatalf("%s: Find(%d): %v, %v, want zeros, false", what, n, e, ok)
		}
		tells(t, what+": Remove", x.Remove(n), false)
		tells(t, what+": Protect", x.Protect(n, n), false)
		tells(t, what+": Protect", x.Protect(n, 7), false)
		counts(t, what+": Clear", x.Clear(n, n), 0)
		counts(t, what+": Clear", x.Clear(0, 255), 0)
	}
	counts(t, what+": Root", x.Root(), -1)
	counts(t, what+": Tables", x.Tables(), 0)
	counts(t, what+": All", len(collect(x.All())), 0)
	counts(t, what+": Close", x.Close(), 0)
}

func TestMapThatNoCallMade(t *testing.T) { // R5
	refused, _ := pmap.New(nil, nil, 0)
	for what, x := range map[string]*pmap.Map{"nil": nil, "zero": {}, "New's nil": refused} {
		unmade(t, what, x)
		unmade(t, what+", once more", x)
	}
}

func TestTablesThatLeadInARing(t *testing.T) { // R1
	w := dirty(t, 4)
	x := w.space(1)
	for i := range words { // the root is the table of each level
		w.m.SetWord(x.Root(), i, word(api.V, x.Root()))
	}
	counts(t, "Tables", x.Tables(), 1)
	counts(t, "All", len(collect(x.All())), 0)
	if _, ok := x.Find(5); ok {
		t.Error("Find: true, want false")
	}
	x.Enter(5, 1, api.Read)
	x.Remove(5)
	x.Close()
	unmade(t, "closed", x)
}

func TestTableThatStandsInManyEntries(t *testing.T) { // R1, P7.1
	w := dirty(t, 8)
	x := w.space(1)
	w.enters("Enter", x, 5, 7, api.Read, api.OK)
	for i := range words {
		w.m.SetWord(x.Root(), i, word(api.V, 1))
		w.m.SetWord(1, i, word(api.V, 2))
	}
	counts(t, "Tables", x.Tables(), 3)
	counts(t, "Close", x.Close(), 3)
	counts(t, "Free", w.p.Free(), 8)
}

// dice tells numbers one after the other that hang on the first one alone.
type dice uint32

func (d *dice) throw(n int) int {
	*d = *d*1664525 + 1013904223
	return int(*d>>8) % n
}

func (d *dice) pick(from ...int) int { return from[d.throw(len(from))] }

// vpn tells a page, of few tables.
func (d *dice) vpn() int {
	if d.throw(20) == 0 {
		return d.pick(wrongVPNs()...)
	}
	return d.pick(0, 1, 2, 255)*level2At + d.pick(0, 1, 511)*level1At + d.pick(0, 1, 511)
}

// model is a space, in the plainest way.
type model map[int]api.PTE

func (s model) leaves() []leaf {
	var all []leaf
	for _, vpn := range slices.Sorted(maps.Keys(s)) {
		all = append(all, leaf{vpn, s[vpn]})
	}
	return all
}

func (s model) tables() int {
	level1, level0 := beginnings(s.leaves())
	return 1 + len(level1) + len(level0)
}

// enter tells what Enter answers where so many frames are Free.
func (s model) enter(vpn, frame, prot, frames, free int) api.Errno {
	if vpn < 0 || vpn >= api.MaxVPN || prot < 1 || prot > 7 || frame < 0 || frame >= frames {
		return api.ErrInval
	}
	with := maps.Clone(s)
	with[vpn] = api.PTE{Flags: leafFlags(prot), PPN: frame}
	if with.tables()-s.tables() > free {
		return api.ErrNoMem
	}
	s[vpn] = with[vpn]
	return api.OK
}

func (s model) protect(vpn, prot int) bool {
	e, ok := s[vpn]
	if prot &= 7; prot == 0 {
		delete(s, vpn)
	} else if ok {
		e.Flags = e.Flags&(api.A|api.D) | leafFlags(prot)
		s[vpn] = e
	}
	return ok
}

// step does one thing to both a space and a model, and asks whether they answer alike.
func (w world) step(what string, d *dice, x *pmap.Map, s model) {
	w.t.Helper()
	vpn, frame, prot := d.vpn(), d.throw(w.m.Frames()+2)-1, d.throw(9)
	e, has := s[vpn]
	switch d.throw(8) {
	case 0, 1, 2:
		free := w.p.Free()
		w.enters(what, x, vpn, frame, prot, s.enter(vpn, frame, prot, w.m.Frames(), free))
	case 3:
		tells(w.t, what+": Remove", x.Remove(vpn), has)
		delete(s, vpn)
	case 4:
		tells(w.t, what+": Protect", x.Protect(vpn, prot), s.protect(vpn, prot))
	case 5:
		flags := d.throw(512)
		counts(w.t, what+": Clear", x.Clear(vpn, flags), e.Flags&flags&(api.A|api.D))
		if has {
			s[vpn] = api.PTE{Flags: e.Flags &^ (flags & (api.A | api.D)), PPN: e.PPN}
		}
	default:
		flags := d.pick(api.A, api.D, api.A|api.D)
		if has {
			w.touch(x, vpn, flags)
			s[vpn] = api.PTE{Flags: e.Flags | flags, PPN: e.PPN}
		}
	}
}

func TestAgainstPlainSpaces(t *testing.T) { // P7.1, P7.2, P7.3, P7.4
	for _, n := range []int{3, 5, 9, 14, 40} {
		w := dirty(t, n)
		spaces, models := make([]*pmap.Map, 3), make([]model, 3)
		for i := range spaces {
			spaces[i], models[i] = w.space(i), model{}
		}
		d := dice(n)
		for i := range 2000 {
			what := strconv.Itoa(n) + " frames, step " + strconv.Itoa(i)
			at := d.throw(3)
			w.step(what, &d, spaces[at], models[at])
			all := 0
			for j, x := range spaces {
				w.holds(what, x, j, models[j].leaves()...)
				all += models[j].tables()
			}
			counts(t, what+": frames of tables", w.p.Count(frames.Table), all)
			if i%400 == 399 {
				counts(t, what+": Close", spaces[at].Close(), models[at].tables())
				spaces[at], models[at] = w.space(at), model{}
			}
		}
	}
}

func TestOneTableForEachBeginning(t *testing.T) { // P7.4
	w := dirty(t, api.MaxFrames)
	x := w.space(1)
	var want []leaf
	for i2 := range 8 {
		for i1 := range 8 {
			for i0 := range 3 {
				vpn := pte.Join(i2*36, i1*73, i0*255)
				w.enters("pages", x, vpn, 0, api.Read, api.OK)
				want = append(want, at(vpn, user|api.R, 0))
			}
		}
	}
	w.holds("pages", x, 1, want...)
	counts(t, "Tables", x.Tables(), 1+8+64)
	for i := len(want) - 1; i >= 0; i -= 2 {
		tells(t, "Remove", x.Remove(want[i].vpn), true)
		want = slices.Delete(want, i, i+1)
		w.holds("pages, less one", x, 1, want...)
	}
	for _, l := range want {
		tells(t, "Remove", x.Remove(l.vpn), true)
	}
	w.holds("no page", x, 1)
	counts(t, "Free", w.p.Free(), api.MaxFrames-1)
}
