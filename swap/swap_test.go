package swap_test

import (
	"bytes"
	"math"
	"testing"

	"pantry/api"
	"pantry/swap"
)

const (
	size     = api.PageSize
	maxSlots = 256
)

// sizes are numbers of places that may be.
func sizes() []int { return []int{0, 1, 2, 3, 64, 255, maxSlots} }

// noPlace has numbers of which so many places have none.
func noPlace(places int) []int {
	return []int{-1, -2, -maxSlots, places, places + 1, places + maxSlots, 1 << 16, 1 << 32, -1 << 32, math.MinInt, math.MinInt + 1, math.MaxInt, math.MaxInt - 1}
}

// noPage has lengths that are not a page's.
func noPage() []int { return []int{0, 1, size / 2, size - 1, size + 1, 2 * size, 16 * size} }

// pattern is a page that has no nought, and is another one for each seed from 0 to 254.
func pattern(seed int) []byte { return long(seed, size) }

// long is as a pattern, but has so many bytes.
func long(seed, n int) []byte {
	p := make([]byte, n)
	for i := range p {
		p[i] = byte(1 + (i*7+i/256*13+seed)%255)
	}
	return p
}

// noughts is a page of noughts.
func noughts() []byte { return make([]byte, size) }

// blank are so many pages of noughts.
func blank(n int) [][]byte {
	pages := make([][]byte, n)
	for i := range pages {
		pages[i] = noughts()
	}
	return pages
}

// made is a device of so many places.
func made(t *testing.T, places int) *swap.Device {
	t.Helper()
	d := swap.New(places)
	if d == nil {
		t.Fatalf("New(%d): nil", places)
	}
	return d
}

// filled is a device whose place i has pattern(i), and the pages that it has.
func filled(t *testing.T, places int) (*swap.Device, [][]byte) {
	t.Helper()
	d, pages := made(t, places), blank(places)
	for i := range pages {
		writes(t, "filled", d, i, pattern(i), api.OK)
		pages[i] = pattern(i)
	}
	return d, pages
}

// writes asks Write for its answer.
func writes(t *testing.T, what string, d *swap.Device, place int, page []byte, want api.Errno) {
	t.Helper()
	if err := d.Write(place, page); err != want {
		t.Fatalf("%s: Write(%d) of %d bytes: %v, want %v", what, place, len(page), err, want)
	}
}

// reads asks Read for a page; beside an error for none.
func reads(t *testing.T, what string, d *swap.Device, place int, page []byte, want api.Errno) {
	t.Helper()
	got, err := d.Read(place)
	if err != want {
		t.Fatalf("%s: Read(%d): %v, want %v", what, place, err, want)
	}
	if err != api.OK && len(got) != 0 {
		t.Fatalf("%s: Read(%d): %v, and %d bytes", what, place, err, len(got))
	}
	if err == api.OK && !bytes.Equal(got, page) {
		t.Fatalf("%s: Read(%d): other bytes, or not so many: %d, want %d", what, place, len(got), len(page))
	}
}

// plans asks Plan for its answer.
func plans(t *testing.T, what string, d *swap.Device, write bool, n int, want api.Errno) {
	t.Helper()
	if err := d.Plan(write, n); err != want {
		t.Fatalf("%s: Plan(%v, %d): %v, want %v", what, write, n, err, want)
	}
}

// counts asks Count for its answer.
func counts(t *testing.T, what string, d *swap.Device, w, r int) {
	t.Helper()
	if a, b := d.Count(); a != w || b != r {
		t.Fatalf("%s: Count: %d, %d, want %d, %d", what, a, b, w, r)
	}
}

// holds asks by Peek, place by place, whether the device has these pages, and no place more.
func holds(t *testing.T, what string, d *swap.Device, pages [][]byte) {
	t.Helper()
	if n := d.Places(); n != len(pages) {
		t.Fatalf("%s: Places: %d, want %d", what, n, len(pages))
	}
	for i, page := range pages {
		if p := d.Peek(i); !bytes.Equal(p, page) {
			t.Fatalf("%s: Peek(%d): other bytes, or not so many: %d, want %d", what, i, len(p), len(page))
		}
	}
	for _, i := range noPlace(len(pages)) {
		if p := d.Peek(i); len(p) != 0 {
			t.Fatalf("%s: Peek(%d): %d bytes, want none", what, i, len(p))
		}
	}
}

func TestNew(t *testing.T) { // P9.1
	for _, n := range sizes() {
		d := made(t, n)
		holds(t, "New", d, blank(n))
		counts(t, "New", d, 0, 0)
	}
	for _, n := range []int{-1, -2, -maxSlots, maxSlots + 1, maxSlots + 2, 1 << 16, 1 << 32, 1<<32 + 1, 2 - 1<<32, math.MinInt, math.MaxInt} {
		if d := swap.New(n); d != nil {
			t.Errorf("New(%d): a device of %d places, want nil", n, d.Places())
		}
	}
}

func TestNewIsApart(t *testing.T) { // P9.1
	a, pages := filled(t, 3)
	b := made(t, 3)
	holds(t, "the second device", b, blank(3))
	plans(t, "the first device", a, true, 1, api.OK)
	writes(t, "the second device", b, 1, pattern(9), api.OK)
	holds(t, "the first device", a, pages)
	counts(t, "the first device", a, 3, 0)
	counts(t, "the second device", b, 1, 0)
	writes(t, "the first device", a, 1, pattern(9), api.ErrIO)
}

func TestReadOfWhatWasNeverWritten(t *testing.T) { // P9.1
	d := made(t, maxSlots)
	for i := range maxSlots {
		reads(t, "a new device", d, i, noughts(), api.OK)
	}
	writes(t, "one place", d, 128, pattern(1), api.OK)
	reads(t, "beside one that was written", d, 127, noughts(), api.OK)
	reads(t, "beside one that was written", d, 129, noughts(), api.OK)
}

func TestWrite(t *testing.T) { // P9.1
	for _, n := range sizes() {
		d, pages := filled(t, n)
		holds(t, "each place its own page", d, pages)
		for i := range pages {
			reads(t, "each place its own page", d, i, pages[i], api.OK)
		}
		counts(t, "each place its own page", d, n, n)
	}
}

func TestWriteOfOnePlaceLeavesTheOthers(t *testing.T) { // P9.1
	for _, i := range []int{0, 1, 2, 4} {
		d, pages := filled(t, 5)
		writes(t, "one place", d, i, pattern(77), api.OK)
		pages[i] = pattern(77)
		holds(t, "one place", d, pages)
	}
}

func TestWhatWasWrittenTwice(t *testing.T) { // P9.1
	d := made(t, 2)
	for _, page := range [][]byte{pattern(1), pattern(2), noughts(), pattern(2), pattern(2), noughts(), noughts()} {
		writes(t, "again", d, 1, page, api.OK)
		reads(t, "again", d, 1, page, api.OK)
		holds(t, "again", d, [][]byte{noughts(), page})
	}
	counts(t, "again", d, 7, 7)
}

func TestWriteOfEachByte(t *testing.T) { // P9.1
	d := made(t, 1)
	for _, at := range []int{0, 1, size/2 - 1, size / 2, size - 2, size - 1} {
		for _, b := range []byte{1, 127, 128, 255} {
			page := noughts()
			page[at] = b
			writes(t, "one byte", d, 0, page, api.OK)
			reads(t, "one byte", d, 0, page, api.OK)
		}
	}
}

func TestNoSuchPlace(t *testing.T) { // P9.1
	for _, n := range sizes() {
		d, pages := filled(t, n)
		for _, i := range noPlace(n) {
			writes(t, "no place", d, i, pattern(99), api.ErrInval)
			writes(t, "no place, no page", d, i, nil, api.ErrInval)
			reads(t, "no place", d, i, nil, api.ErrInval)
		}
		holds(t, "no place", d, pages)
		counts(t, "no place", d, n, 0)
	}
}

func TestPagesThatAreNone(t *testing.T) { // P9.1
	d, pages := filled(t, 3)
	for _, i := range []int{0, 1, 2} {
		writes(t, "nil", d, i, nil, api.ErrInval)
		for _, n := range noPage() {
			writes(t, "no page", d, i, long(99, n), api.ErrInval)
		}
		// The room behind a list's end makes no page of it.
		writes(t, "room for a page", d, i, pattern(99)[:size-1], api.ErrInval)
		writes(t, "room for a page", d, i, pattern(99)[:0], api.ErrInval)
	}
	holds(t, "no page", d, pages)
	counts(t, "no page", d, 3, 0)
	blanks := made(t, 2)
	writes(t, "no page", blanks, 0, long(99, size-1), api.ErrInval)
	holds(t, "no page", blanks, blank(2))
}

func TestWriteTakesACopy(t *testing.T) { // P9.1, R3
	d := made(t, 2)
	page := pattern(1)
	writes(t, "handed in", d, 0, page, api.OK)
	clear(page)
	holds(t, "behind a change of what was handed in", d, [][]byte{pattern(1), noughts()})
	page = pattern(2)
	writes(t, "handed in twice", d, 0, page, api.OK)
	writes(t, "handed in twice", d, 1, page, api.OK)
	page[7] = 0
	holds(t, "behind a change of what was handed in twice", d, [][]byte{pattern(2), pattern(2)})
	got, _ := d.Read(0)
	got[8] = 0
	holds(t, "two places of one page", d, [][]byte{pattern(2), pattern(2)})
}

func TestWriteLeavesItsArgument(t *testing.T) { // P9.1, R3
	d := made(t, 1)
	for _, n := range []int{0, size - 1, size, size + 1} {
		room := long(4, 2*size)
		d.Write(0, room[:n])
		d.Read(0)
		d.Write(0, pattern(9))
		if !bytes.Equal(room, long(4, 2*size)) {
			t.Errorf("Write of %d bytes changed them, or the room behind", n)
		}
	}
}

func TestAnswersAreNewMemory(t *testing.T) { // P9.1, R3
	for _, written := range []bool{false, true} {
		d, want := made(t, 2), noughts()
		if written {
			want = pattern(1)
			writes(t, "first", d, 0, want, api.OK)
		}
		read, _ := d.Read(0)
		again, _ := d.Read(0)
		peek, peek2 := d.Peek(0), d.Peek(0)
		for _, p := range [][]byte{read, peek} {
			for i := range p[:cap(p)] {
				p[:cap(p)][i] = 0xee
			}
			_ = append(p, 77)
		}
		if !bytes.Equal(again, want) || !bytes.Equal(peek2, want) {
			t.Errorf("written %v: a change of one answer changed another one", written)
		}
		holds(t, "behind a change of answers", d, [][]byte{want, noughts()})
		reads(t, "behind a change of answers", d, 0, want, api.OK)
		writes(t, "behind answers", d, 0, pattern(5), api.OK)
		if !bytes.Equal(again, want) || !bytes.Equal(peek2, want) {
			t.Errorf("written %v: a Write changed an older answer", written)
		}
	}
}

func TestSpareRoomHasNothing(t *testing.T) { // R3
	d, _ := filled(t, 3)
	read, _ := d.Read(1)
	for _, p := range [][]byte{read, d.Peek(1)} {
		for _, b := range p[len(p):cap(p)] {
			if b != 0 {
				t.Fatalf("spare room of a page has %d", b)
			}
		}
	}
}

func TestPeek(t *testing.T) { // P9.1
	d, pages := filled(t, 3)
	plans(t, "Peek beside plans", d, false, 1, api.OK)
	plans(t, "Peek beside plans", d, true, 1, api.OK)
	for range 3 {
		holds(t, "Peek beside plans", d, pages)
	}
	counts(t, "Peek is not counted", d, 3, 0)
	reads(t, "Peek leaves the plan", d, 0, nil, api.ErrIO)
	holds(t, "Peek behind ErrIO", d, pages)
	writes(t, "Peek leaves the plan", d, 0, pattern(8), api.ErrIO)
	holds(t, "Peek behind ErrIO", d, pages)
	counts(t, "Peek is not counted", d, 4, 1)
	reads(t, "no plan is left", d, 0, pages[0], api.OK)
}

func TestCount(t *testing.T) { // P9.1
	d := made(t, 2)
	w, r := 0, 0
	also := func(what string, write, read int) {
		t.Helper()
		w, r = w+write, r+read
		counts(t, what, d, w, r)
	}
	writes(t, "OK", d, 0, pattern(1), api.OK)
	also("Write, OK", 1, 0)
	writes(t, "OK", d, 1, pattern(1), api.OK)
	also("Write, OK", 1, 0)
	reads(t, "OK", d, 0, pattern(1), api.OK)
	also("Read, OK", 0, 1)
	writes(t, "no place", d, 2, pattern(1), api.ErrInval)
	writes(t, "no page", d, 0, nil, api.ErrInval)
	reads(t, "no place", d, -1, nil, api.ErrInval)
	also("ErrInval", 0, 0)
	plans(t, "a plan", d, true, 1, api.OK)
	plans(t, "a plan", d, false, 1, api.OK)
	plans(t, "no plan", d, false, -1, api.ErrInval)
	also("Plan", 0, 0)
	writes(t, "ErrIO", d, 0, pattern(2), api.ErrIO)
	also("Write, ErrIO", 1, 0)
	reads(t, "ErrIO", d, 0, nil, api.ErrIO)
	also("Read, ErrIO", 0, 1)
	d.Places()
	d.Peek(0)
	d.Peek(9)
	also("Places, Peek", 0, 0)
}

func TestChaptersExample(t *testing.T) { // P9.2
	d := made(t, 1)
	plans(t, "the example", d, true, 2, api.OK)
	writes(t, "the example", d, 0, pattern(1), api.OK)
	writes(t, "the example", d, 0, pattern(2), api.ErrIO)
	writes(t, "the example", d, 0, pattern(3), api.OK)
	reads(t, "the example", d, 0, pattern(3), api.OK)
}

// calls does so many Writes or Reads of place 0, of which the n-th is ErrIO, and no other one.
func calls(t *testing.T, what string, d *swap.Device, write bool, times, n int) {
	t.Helper()
	for i := range times {
		want := api.OK
		if i+1 == n {
			want = api.ErrIO
		}
		if write {
			writes(t, what, d, 0, pattern(1), want)
		} else {
			reads(t, what, d, 0, pattern(1), want)
		}
	}
}

func TestPlan(t *testing.T) { // P9.2
	for _, write := range []bool{true, false} {
		for _, n := range []int{0, 1, 2, 3, 10, 19, 20, 21, 1 << 32, 1<<32 + 1, math.MaxInt - 1, math.MaxInt} {
			d, _ := filled(t, 1)
			writes(t, "ahead", d, 0, pattern(1), api.OK)
			reads(t, "ahead", d, 0, pattern(1), api.OK)
			plans(t, "a plan", d, write, n, api.OK)
			calls(t, "of the other kind", d, !write, 30, 0)
			calls(t, "a plan", d, write, 20, n)
			if n <= 20 {
				calls(t, "a plan that has ended", d, write, 20, 0)
			} else if n == 21 {
				calls(t, "a plan that goes on", d, write, 20, 1)
			}
		}
	}
}

func TestPlanOfEachCallInItsTurn(t *testing.T) { // P9.2
	for _, write := range []bool{true, false} {
		d := made(t, 1)
		writes(t, "ahead", d, 0, pattern(1), api.OK)
		for n := range 9 {
			plans(t, "one behind the other", d, write, n, api.OK)
			calls(t, "one behind the other", d, write, 10, n)
		}
	}
}

func TestPlanThatIsMadeAnew(t *testing.T) { // P9.2
	for _, write := range []bool{true, false} {
		d := made(t, 1)
		writes(t, "ahead", d, 0, pattern(1), api.OK)
		plans(t, "first", d, write, 3, api.OK)
		calls(t, "first", d, write, 1, 0)
		plans(t, "a later one", d, write, 4, api.OK)
		calls(t, "a later one", d, write, 8, 4)
		plans(t, "first", d, write, 5, api.OK)
		plans(t, "a nearer one", d, write, 1, api.OK)
		calls(t, "a nearer one", d, write, 8, 1)
		plans(t, "first", d, write, 2, api.OK)
		calls(t, "first", d, write, 1, 0)
		plans(t, "as the first one", d, write, 2, api.OK)
		calls(t, "as the first one", d, write, 8, 2)
	}
}

func TestPlanThatIsEnded(t *testing.T) { // P9.2
	for _, write := range []bool{true, false} {
		for _, n := range []int{1, 2, 3} {
			d := made(t, 1)
			writes(t, "ahead", d, 0, pattern(1), api.OK)
			plans(t, "first", d, write, n, api.OK)
			plans(t, "of the other kind", d, !write, n, api.OK)
			plans(t, "ended", d, write, 0, api.OK)
			calls(t, "ended", d, write, 8, 0)
			calls(t, "of the other kind", d, !write, 8, n)
			plans(t, "ended with none", d, write, 0, api.OK)
			calls(t, "ended with none", d, write, 8, 0)
		}
	}
}

func TestPlansThatMayNotBe(t *testing.T) { // P9.2
	for _, write := range []bool{true, false} {
		for _, n := range []int{-1, -2, 2 - 1<<32, math.MinInt, math.MinInt + 1} {
			d := made(t, 1)
			writes(t, "ahead", d, 0, pattern(1), api.OK)
			plans(t, "without a plan", d, write, n, api.ErrInval)
			calls(t, "without a plan", d, write, 8, 0)
			plans(t, "first", d, write, 3, api.OK)
			calls(t, "first", d, write, 1, 0)
			plans(t, "beside a plan", d, write, n, api.ErrInval)
			plans(t, "of the other kind", d, !write, n, api.ErrInval)
			calls(t, "of the other kind", d, !write, 8, 0)
			calls(t, "the plan is as it was", d, write, 8, 2)
		}
	}
}

func TestPlansAreEachByThemselves(t *testing.T) { // P9.2
	d := made(t, 1)
	writes(t, "ahead", d, 0, pattern(1), api.OK)
	plans(t, "both", d, true, 2, api.OK)
	plans(t, "both", d, false, 3, api.OK)
	reads(t, "both", d, 0, pattern(1), api.OK)
	writes(t, "both", d, 0, pattern(2), api.OK)
	reads(t, "both", d, 0, pattern(2), api.OK)
	reads(t, "both", d, 0, nil, api.ErrIO)
	reads(t, "the Writes' plan is left", d, 0, pattern(2), api.OK)
	writes(t, "the Writes' plan is left", d, 0, pattern(3), api.ErrIO)
	writes(t, "none is left", d, 0, pattern(4), api.OK)
	reads(t, "none is left", d, 0, pattern(4), api.OK)
}

func TestPlanIsOfAnyPlace(t *testing.T) { // P9.2
	d, pages := filled(t, 4)
	plans(t, "places", d, true, 3, api.OK)
	plans(t, "places", d, false, 3, api.OK)
	for i, want := range []api.Errno{api.OK, api.OK, api.ErrIO, api.OK} {
		writes(t, "places", d, i, pattern(50+i), want)
		if want == api.OK {
			pages[i] = pattern(50 + i)
		}
	}
	holds(t, "places", d, pages)
	for i, want := range []api.Errno{api.OK, api.OK, api.ErrIO, api.OK} {
		reads(t, "places", d, 3-i, pages[3-i], want)
	}
}

func TestPlanDoesNotCountInval(t *testing.T) { // P9.2, R2
	d, pages := filled(t, 2)
	for _, n := range []int{1, 2} {
		plans(t, "ErrInval between", d, true, n, api.OK)
		plans(t, "ErrInval between", d, false, n, api.OK)
		for range 3 {
			writes(t, "no place, no page, planned", d, 2, nil, api.ErrInval)
			writes(t, "no place, planned", d, -1, pattern(9), api.ErrInval)
			writes(t, "no page, planned", d, 0, long(9, size+1), api.ErrInval)
			reads(t, "no place, planned", d, 2, nil, api.ErrInval)
		}
		for i := range n {
			want := api.OK
			if i+1 == n {
				want = api.ErrIO
			}
			writes(t, "behind ErrInval", d, 1, pages[1], want)
			reads(t, "behind ErrInval", d, 1, pages[1], want)
		}
	}
	holds(t, "behind ErrInval", d, pages)
	counts(t, "behind ErrInval", d, 5, 3)
}

func TestWriteThatFailsChangesNothing(t *testing.T) { // P9.3
	for _, n := range []int{1, 3, maxSlots} {
		for _, i := range []int{0, n / 2, n - 1} {
			d := made(t, n)
			pages := blank(n)
			for range 2 {
				plans(t, "fails", d, true, 1, api.OK)
				writes(t, "fails", d, i, pattern(3), api.ErrIO)
				holds(t, "fails", d, pages)
				writes(t, "no page", d, i, long(3, size-1), api.ErrInval)
				writes(t, "no place", d, n, pattern(3), api.ErrInval)
				holds(t, "fails", d, pages)
				writes(t, "is there", d, i, pattern(4), api.OK)
				pages[i] = pattern(4)
				holds(t, "is there", d, pages)
			}
			reads(t, "is there", d, i, pattern(4), api.OK)
		}
	}
}

func TestReadThatFailsChangesNothing(t *testing.T) { // P9.3
	d, pages := filled(t, 3)
	plans(t, "fails", d, false, 1, api.OK)
	reads(t, "fails", d, 1, nil, api.ErrIO)
	holds(t, "fails", d, pages)
	for i := range pages {
		reads(t, "behind it", d, i, pages[i], api.OK)
	}
}

// dice tells numbers that look like any.
type dice uint64

func (d *dice) below(n int) int {
	*d = *d*6364136223846793005 + 1442695040888963407
	return int(uint64(*d>>33) % uint64(n))
}

// model is what a device should be.
type model struct {
	pages [][]byte
	fails [2]int // of Reads, of Writes: how many more up to the one that fails
	count [2]int
}

// counted tells what a call of a kind answers that is counted.
func (m *model) counted(kind int) api.Errno {
	m.count[kind]++
	if m.fails[kind]--; m.fails[kind] == 0 {
		return api.ErrIO
	}
	return api.OK
}

func TestAgainstAModel(t *testing.T) { // P9.1, P9.2, P9.3
	for _, n := range []int{0, 1, 5, 40} {
		r := dice(n + 1)
		d, m := made(t, n), &model{pages: blank(n)}
		for range 3000 {
			i := r.below(n+2) - 1
			there := i >= 0 && i < n
			switch what := r.below(12); {
			case what == 0:
				kind, k := r.below(2), r.below(9)-1
				if k < 0 {
					plans(t, "a long run", d, kind == 1, k, api.ErrInval)
					continue
				}
				plans(t, "a long run", d, kind == 1, k, api.OK)
				m.fails[kind] = k
			case what < 6:
				page := long(r.below(255), size+max(r.below(24)-22, 0))
				want := api.ErrInval
				if there && len(page) == size {
					want = m.counted(1)
				}
				writes(t, "a long run", d, i, page, want)
				if want == api.OK {
					m.pages[i] = page
				}
			case there:
				reads(t, "a long run", d, i, m.pages[i], m.counted(0))
			default:
				reads(t, "a long run", d, i, nil, api.ErrInval)
			}
			counts(t, "a long run", d, m.count[1], m.count[0])
		}
		holds(t, "behind a long run", d, m.pages)
	}
}

func TestDeviceOfNoPlaces(t *testing.T) { // P9.1, P9.2
	d := made(t, 0)
	for _, i := range append(noPlace(0), 0) {
		writes(t, "no places", d, i, pattern(1), api.ErrInval)
		reads(t, "no places", d, i, nil, api.ErrInval)
	}
	plans(t, "no places", d, true, 1, api.OK)
	plans(t, "no places", d, false, 0, api.OK)
	plans(t, "no places", d, true, -1, api.ErrInval)
	counts(t, "no places", d, 0, 0)
}

func TestDeviceThatNoCallMade(t *testing.T) { // R5
	for name, d := range map[string]*swap.Device{"nil": nil, "a zero value": {}, "what New answered": swap.New(-1)} {
		for range 2 {
			for _, i := range append(noPlace(0), 0, 1) {
				writes(t, name, d, i, pattern(1), api.ErrMade)
				writes(t, name, d, i, nil, api.ErrMade)
				reads(t, name, d, i, nil, api.ErrMade)
				plans(t, name, d, true, i, api.ErrMade)
				plans(t, name, d, false, i, api.ErrMade)
			}
			holds(t, name, d, nil)
			counts(t, name, d, 0, 0)
		}
	}
}
