package slots_test

import (
	"math"
	"slices"
	"strings"
	"testing"

	"pantry/slots"
)

const (
	maxSlots = 256
	free     = 0
	taken    = 1
	bad      = 2
)

// A plan is a text with a letter for each place.
const letters = ".TB" // free, taken, bad

// sizes are numbers of places about the ends of words.
func sizes() []int {
	return []int{0, 1, 2, 4, 63, 64, 65, 127, 128, 129, 191, 192, 193, 255, maxSlots}
}

// noPlace has numbers of which so many places have none.
func noPlace(places int) []int {
	return []int{-1, -2, -63, -64, -65, places, places + 1, places + 63, places + 64, maxSlots, maxSlots + 1, 1 << 32, -1 << 32, math.MinInt, math.MinInt + 1, math.MaxInt, math.MaxInt - 1}
}

// noState has numbers that are no state.
func noState() []int {
	return []int{-1, -2, 3, 4, 64, 256, 1 << 32, 1<<32 + 1, 1<<32 + 2, math.MinInt, math.MaxInt}
}

// stateOf is the state that a plan's letter stands for.
func stateOf(letter byte) int { return strings.IndexByte(letters, letter) }

// dots is a plan of so many free places.
func dots(n int) string { return strings.Repeat(".", n) }

// row is a plan of so many places that are alike.
func row(letter string, n int) string { return strings.Repeat(letter, n) }

// with is a plan with another letter at some places.
func with(plan, letter string, at ...int) string {
	b := []byte(plan)
	for _, i := range at {
		b[i] = letter[0]
	}
	return string(b)
}

// made has places of a plan.
func made(t *testing.T, plan string) *slots.Slots {
	t.Helper()
	s := slots.New(len(plan))
	if s == nil {
		t.Fatalf("New(%d): nil", len(plan))
	}
	for i := range len(plan) {
		if got, ok := s.Take(); got != i || !ok {
			t.Fatalf("New(%d): Take: %d, %v, want %d", len(plan), got, ok, i)
		}
	}
	for i := range len(plan) {
		switch plan[i] {
		case '.':
			s.Give(i)
		case 'B':
			s.Spoil(i)
		}
	}
	holds(t, "made", s, plan)
	return s
}

// words are what Words tells of a plan.
func words(plan string) []uint64 {
	var out []uint64
	for i := range len(plan) {
		if i%64 == 0 {
			out = append(out, 0)
		}
		if plan[i] != '.' {
			out[i/64] += uint64(math.Pow(2, float64(i%64)))
		}
	}
	return out
}

// holds asks everything of the places that a plan says.
func holds(t *testing.T, what string, s *slots.Slots, plan string) {
	t.Helper()
	var got []byte
	for i := range len(plan) {
		state := s.State(i)
		if state < free || state > bad {
			t.Fatalf("%s: State(%d): %d", what, i, state)
		}
		got = append(got, letters[state])
	}
	if string(got) != plan {
		t.Fatalf("%s: %s, want %s", what, got, plan)
	}
	for _, i := range noPlace(len(plan)) {
		if i >= 0 && i < len(plan) {
			continue
		}
		if state := s.State(i); state != -1 {
			t.Fatalf("%s: State(%d): %d, want -1", what, i, state)
		}
	}
	sum := 0
	for state := free; state <= bad; state++ {
		want := strings.Count(plan, letters[state:state+1])
		if n := s.Count(state); n != want {
			t.Fatalf("%s: Count(%d): %d, want %d", what, state, n, want)
		}
		sum += s.Count(state)
	}
	if sum != len(plan) {
		t.Fatalf("%s: all states have %d places, want %d", what, sum, len(plan))
	}
	if w := s.Words(); !slices.Equal(w, words(plan)) {
		t.Fatalf("%s: Words: %x, want %x", what, w, words(plan))
	}
}

// runs asks TakeRun for its answer.
func runs(t *testing.T, what string, s *slots.Slots, k, want int, ok bool) {
	t.Helper()
	if got, o := s.TakeRun(k); got != want || o != ok {
		t.Errorf("%s: TakeRun(%d): %d, %v, want %d, %v", what, k, got, o, want, ok)
	}
}

// takes asks Take for its answer.
func takes(t *testing.T, what string, s *slots.Slots, want int, ok bool) {
	t.Helper()
	if got, o := s.Take(); got != want || o != ok {
		t.Errorf("%s: Take: %d, %v, want %d, %v", what, got, o, want, ok)
	}
}

// says asks for one answer of Give or of Spoil.
func says(t *testing.T, what string, got, want bool) {
	t.Helper()
	if got != want {
		t.Errorf("%s: %v, want %v", what, got, want)
	}
}

func TestNew(t *testing.T) { // P8.1
	for _, n := range sizes() {
		s := slots.New(n)
		if s == nil {
			t.Fatalf("New(%d): nil", n)
		}
		holds(t, "New", s, dots(n))
	}
	for _, n := range []int{-1, -2, -64, maxSlots + 1, maxSlots + 2, 1 << 32, 1<<32 + 1, 4 - 1<<32, math.MinInt, math.MaxInt, math.MaxInt - 62} {
		if slots.New(n) != nil {
			t.Errorf("New(%d): not nil", n)
		}
	}
}

func TestNewIsApart(t *testing.T) { // P8.1
	a, b := slots.New(4), slots.New(4)
	a.Take()
	a.Spoil(3)
	holds(t, "the one", a, "T..B")
	holds(t, "the other", b, "....")
}

func TestChaptersExample(t *testing.T) { // P8.1, P8.2
	s := slots.New(4)
	takes(t, "the example", s, 0, true)
	runs(t, "the example", s, 2, 1, true)
	says(t, "Give(1)", s.Give(1), true)
	runs(t, "the example", s, 2, 0, false)
	takes(t, "the example", s, 1, true)
	if w := s.Words(); !slices.Equal(w, []uint64{7}) {
		t.Errorf("Words: %v, want [7]", w)
	}
}

func TestTake(t *testing.T) { // P8.1
	for _, n := range sizes() {
		s := slots.New(n)
		for i := range n {
			takes(t, "Take", s, i, true)
			holds(t, "Take", s, row("T", i+1)+dots(n-i-1))
		}
		takes(t, "none is free", s, 0, false)
		takes(t, "none is free", s, 0, false)
		holds(t, "none is free", s, row("T", n))
	}
}

func TestTakeOfTheLowest(t *testing.T) { // P8.1
	for _, low := range []int{0, 1, 62, 63, 64, 65, 127, 128, 198} {
		s := made(t, row("T", 200))
		s.Give(199)
		s.Give(low)
		takes(t, "behind Give of both", s, low, true)
		takes(t, "behind Give of both", s, 199, true)
		takes(t, "behind Give of both", s, 0, false)
		s.Give(low)
		s.Give(199)
		takes(t, "the low one first", s, low, true)
		holds(t, "the low one first", s, with(row("T", 200), ".", 199))
	}
}

func TestTakeGoesOverBadPlaces(t *testing.T) { // P8.1
	s := made(t, "BTB.B.")
	takes(t, "bad ones", s, 3, true)
	takes(t, "bad ones", s, 5, true)
	takes(t, "bad ones", s, 0, false)
	holds(t, "bad ones", s, "BTBTBT")
	s = made(t, row("B", 130))
	takes(t, "all are bad", s, 0, false)
	holds(t, "all are bad", s, row("B", 130))
}

func TestTakeRun(t *testing.T) { // P8.1
	for _, n := range sizes() {
		for _, k := range []int{1, 2, 3, 4, 5, 62, 63, 64, 65, 66, 127, 128, 129, 192, 255, 256, 257, n - 1, n, n + 1} {
			s := slots.New(n)
			want := dots(n)
			if k >= 1 && k <= n {
				runs(t, "of free ones", s, k, 0, true)
				want = row("T", k) + dots(n-k)
			} else {
				runs(t, "of free ones", s, k, 0, false)
			}
			holds(t, "of free ones", s, want)
		}
	}
}

func TestTakeRunOfNumbersThatMayNotBe(t *testing.T) { // P8.1, R6
	for _, n := range sizes() {
		for _, plan := range []string{dots(n), row("T", n/2) + dots(n-n/2)} {
			s := made(t, plan)
			for _, k := range []int{0, -1, -2, -64, n + 1, n + 64, maxSlots + 1, 1 << 32, 1<<32 + 1, 1 - 1<<32, math.MinInt, math.MinInt + 1, math.MaxInt, math.MaxInt - 1, math.MaxInt - n/2} {
				runs(t, "no run", s, k, 0, false)
			}
			holds(t, "no run", s, plan)
		}
	}
}

func TestTakeRunOneBehindTheOther(t *testing.T) { // P8.1
	s := slots.New(200)
	for _, c := range []struct{ k, first int }{{1, 0}, {63, 1}, {64, 64}, {65, 128}, {7, 193}} {
		runs(t, "one behind the other", s, c.k, c.first, true)
	}
	runs(t, "none is left", s, 1, 0, false)
	holds(t, "none is left", s, row("T", 200))
}

func TestTakeRunFromAnyPlace(t *testing.T) { // P8.1
	for _, first := range []int{0, 1, 31, 61, 62, 63, 64, 65, 100, 126, 127, 128} {
		for _, k := range []int{1, 2, 3, 62, 63, 64, 65, 127, 128} {
			plan := row("T", first) + dots(k) + row("T", maxSlots-first-k)
			s := made(t, plan)
			runs(t, "one too many", s, k+1, 0, false)
			holds(t, "one too many", s, plan)
			runs(t, "just as many", s, k, first, true)
			holds(t, "just as many", s, row("T", maxSlots))
		}
	}
}

func TestTakeRunOfTheLowest(t *testing.T) { // P8.1
	s := made(t, "..T...T....")
	runs(t, "the lowest that is long enough", s, 3, 3, true)
	holds(t, "the lowest that is long enough", s, "..TTTTT....")
	runs(t, "the lowest that is long enough", s, 3, 7, true)
	holds(t, "the lowest that is long enough", s, "..TTTTTTTT.")
	runs(t, "none is long enough", s, 3, 0, false)
	runs(t, "the lowest", s, 1, 0, true)
	runs(t, "none is long enough", s, 2, 0, false)
	runs(t, "the lowest", s, 1, 1, true)
	runs(t, "the last one", s, 1, 10, true)
	holds(t, "all are taken", s, row("T", 11))
}

func TestTakeRunThatIsBroken(t *testing.T) { // P8.1
	for _, letter := range []string{"T", "B"} {
		for _, at := range []int{0, 1, 62, 63, 64, 65, 99, 127, 128, 129} {
			plan := with(dots(130), letter, at)
			longest := max(at, 129-at)
			s := made(t, plan)
			runs(t, "broken by one", s, longest+1, 0, false)
			runs(t, "broken by one", s, 130, 0, false)
			holds(t, "broken by one", s, plan)
			if at >= longest {
				runs(t, "below the one", s, longest, 0, true)
				holds(t, "below the one", s, with(row("T", longest)+dots(130-longest), letter, at))
			} else {
				runs(t, "behind the one", s, longest, at+1, true)
				holds(t, "behind the one", s, with(dots(130-longest)+row("T", longest), letter, at))
			}
		}
	}
}

func TestTakeRunOfPiecesThatAreTooShort(t *testing.T) { // P8.1
	for _, letter := range []string{"T", "B"} {
		plan := strings.Repeat("..."+letter, 64)
		s := made(t, plan)
		runs(t, "too short", s, 4, 0, false)
		runs(t, "too short", s, 192, 0, false)
		holds(t, "too short", s, plan)
		runs(t, "just as long", s, 3, 0, true)
		runs(t, "the next one", s, 2, 4, true)
		runs(t, "the one behind it", s, 3, 8, true)
		runs(t, "what is left", s, 1, 6, true)
		holds(t, "what is left", s, "TTT"+letter+"TTT"+letter+"TTT"+letter+plan[12:])
	}
}

func TestGive(t *testing.T) { // P8.1
	plan := strings.Repeat(".TB", 66)
	s := made(t, plan)
	for i := range len(plan) {
		says(t, "Give", s.Give(i), plan[i] == 'T')
		if plan[i] == 'T' {
			plan = with(plan, ".", i)
		}
		holds(t, "Give", s, plan)
		says(t, "Give again", s.Give(i), false)
		holds(t, "Give again", s, plan)
	}
}

func TestSpoil(t *testing.T) { // P8.1
	plan := strings.Repeat(".TB", 66)
	s := made(t, plan)
	for i := range len(plan) {
		says(t, "Spoil", s.Spoil(i), plan[i] != 'B')
		plan = with(plan, "B", i)
		holds(t, "Spoil", s, plan)
		says(t, "Spoil again", s.Spoil(i), false)
		says(t, "Give of a bad one", s.Give(i), false)
		holds(t, "Spoil again", s, plan)
	}
	takes(t, "all are bad", s, 0, false)
	runs(t, "all are bad", s, 1, 0, false)
}

func TestCallsForNoPlace(t *testing.T) { // P8.1
	for _, n := range sizes() {
		for _, plan := range []string{dots(n), row("T", n), row("B", n)} {
			s := made(t, plan)
			for _, i := range noPlace(n) {
				if i >= 0 && i < n {
					continue
				}
				says(t, "Give of no place", s.Give(i), false)
				says(t, "Spoil of no place", s.Spoil(i), false)
			}
			holds(t, "no place", s, plan)
		}
	}
}

func TestBadPlacesStayBad(t *testing.T) { // P8.1, P8.3
	s := made(t, "..TB")
	s.Spoil(0)
	s.Spoil(2)
	for range 3 {
		for i := range 4 {
			s.Give(i)
		}
		holds(t, "Give of all", s, "B.BB")
		runs(t, "bad ones", s, 2, 0, false)
		takes(t, "bad ones", s, 1, true)
		takes(t, "bad ones", s, 0, false)
		holds(t, "bad ones", s, "BTBB")
	}
}

func TestCountOfNoState(t *testing.T) { // P8.1
	for _, plan := range []string{"", ".TB", strings.Repeat("..TTTB", 20)} {
		s := made(t, plan)
		for _, state := range noState() {
			if n := s.Count(state); n != 0 {
				t.Errorf("%s: Count(%d): %d, want 0", plan, state, n)
			}
		}
	}
}

func TestWords(t *testing.T) { // P8.2
	for _, n := range sizes() {
		for _, letter := range []string{"T", "B"} {
			s := made(t, row(letter, n))
			w := s.Words()
			if len(w) != (n+63)/64 {
				t.Fatalf("%d places: %d words", n, len(w))
			}
			for i := range 64 * len(w) {
				if got := w[i/64]>>(i%64)&1 == 1; got != (i < n) {
					t.Errorf("%d places: bit %d is %v", n, i, got)
				}
			}
		}
	}
}

func TestWordsOfOnePlace(t *testing.T) { // P8.2
	for _, i := range []int{0, 1, 31, 32, 62, 63, 64, 65, 127, 128, 191, 192, 255} {
		for _, letter := range []string{"T", "B"} {
			want := make([]uint64, 4)
			want[i/64] = 1 << (i % 64)
			if w := made(t, with(dots(maxSlots), letter, i)).Words(); !slices.Equal(w, want) {
				t.Errorf("place %d: %x, want %x", i, w, want)
			}
		}
	}
}

func TestWordsAreTheCallers(t *testing.T) { // P8.2, R3
	s := made(t, row(".TB", 50))
	a, b := s.Words(), s.Words()
	a = a[:cap(a)]
	for i := range a {
		a[i] = ^a[i]
	}
	_ = append(a, 1)
	holds(t, "a row that was changed", s, row(".TB", 50))
	if !slices.Equal(b, words(row(".TB", 50))) {
		t.Errorf("another row: %x", b)
	}
	s.Take()
	s.Give(1)
	s.Spoil(63)
	if !slices.Equal(b, words(row(".TB", 50))) {
		t.Errorf("a row that was handed out ahead: %x", b)
	}
	if extra := s.Words(); slices.ContainsFunc(extra[len(extra):cap(extra)], func(w uint64) bool { return w != 0 }) {
		t.Errorf("spare room of a row: %x", extra[:cap(extra)])
	}
}

// dice tells numbers that look like any.
type dice uint64

func (d *dice) below(n int) int {
	*d = *d*6364136223846793005 + 1442695040888963407
	return int(uint64(*d>>33) % uint64(n))
}

// lowest is the first of so many free places of a plan side by side.
func lowest(plan string, k int) int { return strings.Index(plan, dots(k)) }

func TestAgainstAPlan(t *testing.T) { // P8.1, P8.2, P8.3
	for _, n := range []int{1, 5, 64, 100, 129, maxSlots} {
		d := dice(n)
		plan := dots(n)
		s := slots.New(n)
		for range 3000 {
			i := d.below(n+4) - 2
			there := i >= 0 && i < n
			switch d.below(20) {
			case 0, 1, 2, 3:
				at := lowest(plan, 1)
				takes(t, "Take", s, max(at, 0), at >= 0)
				if at >= 0 {
					plan = with(plan, "T", at)
				}
			case 4, 5, 6, 7:
				k := 1 + d.below(max(n/4, 2))
				at := lowest(plan, k)
				runs(t, "TakeRun", s, k, max(at, 0), at >= 0)
				if at >= 0 {
					plan = plan[:at] + row("T", k) + plan[at+k:]
				}
			case 8:
				if d.below(20) > 0 {
					continue
				}
				may := there && plan[i] != 'B'
				says(t, "Spoil", s.Spoil(i), may)
				if may {
					plan = with(plan, "B", i)
				}
			default:
				may := there && plan[i] == 'T'
				says(t, "Give", s.Give(i), may)
				if may {
					plan = with(plan, ".", i)
				}
			}
			holds(t, "a long run", s, plan)
		}
	}
}

func TestNoPlaceIsTakenTwice(t *testing.T) { // P8.3
	s := slots.New(maxSlots)
	d := dice(3)
	mine := make([]int, maxSlots) // how often each place was taken and not given back
	for range 5000 {
		k := 1 + d.below(9)
		first, ok := s.TakeRun(k)
		for i := first; ok && i < first+k; i++ {
			if mine[i]++; mine[i] != 1 {
				t.Fatalf("place %d is taken twice", i)
			}
		}
		for range d.below(9) {
			if i := d.below(maxSlots); s.Give(i) {
				mine[i]--
			}
		}
		if sum := s.Count(free) + s.Count(taken) + s.Count(bad); sum != maxSlots {
			t.Fatalf("all states have %d places", sum)
		}
	}
}

func TestSlotsThatNoCallMade(t *testing.T) { // R5
	for name, s := range map[string]*slots.Slots{"nil": nil, "a zero value": {}, "what New answered": slots.New(-1)} {
		for range 2 {
			for _, i := range append(noPlace(0), 0, 1, 63, 64) {
				runs(t, name, s, i, 0, false)
				says(t, name, s.Give(i), false)
				says(t, name, s.Spoil(i), false)
				if state := s.State(i); state != -1 {
					t.Errorf("%s: State(%d): %d", name, i, state)
				}
				if n := s.Count(i); n != 0 {
					t.Errorf("%s: Count(%d): %d", name, i, n)
				}
			}
			takes(t, name, s, 0, false)
			if w := s.Words(); len(w) != 0 {
				t.Errorf("%s: Words: %v", name, w)
			}
		}
	}
}
