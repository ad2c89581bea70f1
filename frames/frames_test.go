package frames_test

import (
	"math"
	"math/big"
	"slices"
	"strconv"
	"testing"

	"pantry/api"
	"pantry/frames"
)

const (
	maxFrames = 256
	maxCount  = 1000000
)

// classes are those that a frame which is not Free may have.
func classes() []int { return []int{frames.Table, frames.Anon, frames.File, frames.Loose} }

// others are the classes that may not take what is kept for tables.
func others() []int { return []int{frames.Anon, frames.File, frames.Loose} }

// noClass has numbers that no frame which is not Free may have as its class.
func noClass() []int {
	return []int{frames.Free, frames.Loose + 1, -1, 6, 256, 1<<32 + 1, 1<<32 + 4, 1 - 1<<32, math.MinInt, math.MinInt + 1, math.MaxInt}
}

// noFrame has numbers of which a pool of so many frames has none.
func noFrame(past int) []int {
	return []int{-1, -2, past, past + 1, maxFrames, maxFrames + 1, 1 << 32, 1<<32 + 1, -1 << 32, math.MinInt, math.MaxInt}
}

// ends are numbers at their ends, and some that differ in their highest bits alone.
func ends() []int {
	return []int{0, 1, -1, 5, 1<<32 + 5, 5 - 1<<32, 1 << 31, 1 << 32, -1 << 31, 1 << 62, math.MaxInt, math.MaxInt - 1, math.MinInt, math.MinInt + 5}
}

// of is a frame of a class, with an owner and an index, neither wired nor lent.
func of(class, owner, index int) frames.Frame {
	return frames.Frame{Class: class, Owner: owner, Index: index}
}

// held is a frame that is wired and lent.
func held(class, owner, index, wire, loan int) frames.Frame {
	return frames.Frame{Class: class, Owner: owner, Index: index, Wire: wire, Loan: loan}
}

// free has so many frames that are Free.
func free(n int) []frames.Frame { return make([]frames.Frame, n) }

// pool is a new pool of these frames, from 0 on.
func pool(t *testing.T, reserve int, want ...frames.Frame) *frames.Pool {
	t.Helper()
	p := frames.New(len(want), reserve)
	if p == nil {
		t.Fatalf("New(%d, %d): nil", len(want), reserve)
	}
	for i := range want { // as tables, for which all are there
		takes(t, "a new pool", p, frames.Table, 0, 0, i, api.OK)
	}
	for i, f := range want {
		if f == (frames.Frame{}) {
			tells(t, "a new pool: Give", p.Give(i), api.OK)
			continue
		}
		tells(t, "a new pool: Own", p.Own(i, f.Class, f.Owner, f.Index), api.OK)
		tells(t, "a new pool: Wire", p.Wire(i, f.Wire), api.OK)
		tells(t, "a new pool: Loan", p.Loan(i, f.Loan), api.OK)
	}
	holds(t, "a new pool", p, want...)
	return p
}

// mixed is a pool of a frame of each class, of one that is wired, of one that is lent, of one that is both, and of one that is Free.
func mixed(t *testing.T) (*frames.Pool, []frames.Frame) {
	t.Helper()
	want := []frames.Frame{of(frames.Table, 1, 2), of(frames.Anon, 3, 4), of(frames.File, 5, 6), of(frames.Loose, 7, 8),
		held(frames.Anon, 9, 10, 1, 0), held(frames.File, 11, 12, 0, 1), held(frames.Table, 13, 14, 2, 3), {}}
	return pool(t, 0, want...), want
}

// tells asks for one answer of a call that tells an error alone.
func tells(t *testing.T, what string, got, want api.Errno) {
	t.Helper()
	if got != want {
		t.Errorf("%s: %v, want %v", what, got, want)
	}
}

// takes asks Take for its answer.
func takes(t *testing.T, what string, p *frames.Pool, class, owner, index, want int, err api.Errno) {
	t.Helper()
	if got, e := p.Take(class, owner, index); got != want || e != err {
		t.Errorf("%s: Take(%d, %d, %d): %d, %v, want %d, %v", what, class, owner, index, got, e, want, err)
	}
}

// counts asks Count and Free how many frames are of each class.
func counts(t *testing.T, what string, p *frames.Pool, want []frames.Frame) {
	t.Helper()
	var n [5]int
	for _, f := range want {
		n[f.Class]++
	}
	sum := 0
	for class, n := range n {
		if got := p.Count(class); got != n {
			t.Fatalf("%s: Count(%d): %d, want %d", what, class, got, n)
		}
		sum += p.Count(class)
	}
	if sum != len(want) {
		t.Fatalf("%s: all classes have %d frames, want %d", what, sum, len(want))
	}
	if got := p.Free(); got != n[frames.Free] {
		t.Fatalf("%s: Free: %d, want %d", what, got, n[frames.Free])
	}
}

// holds asks, by each call that tells something, whether a pool has these frames, and no other ones.
func holds(t *testing.T, what string, p *frames.Pool, want ...frames.Frame) {
	t.Helper()
	for i, w := range want {
		if f, ok := p.Get(i); f != w || !ok {
			t.Fatalf("%s: Get(%d): %v, %v, want %v, true", what, i, f, ok, w)
		}
	}
	for _, i := range noFrame(len(want)) {
		if f, ok := p.Get(i); f != (frames.Frame{}) || ok {
			t.Fatalf("%s: Get(%d): %v, %v, want zeros, false", what, i, f, ok)
		}
	}
	counts(t, what, p, want)
	for _, class := range noClass() {
		if class != frames.Free && p.Count(class) != 0 {
			t.Fatalf("%s: Count(%d): %d, want 0", what, class, p.Count(class))
		}
	}
}

func TestNew(t *testing.T) { // P6.1
	for _, n := range []int{1, 2, 3, 255, maxFrames} {
		for _, reserve := range []int{0, 1, n / 2, n - 1, n} {
			p := frames.New(n, reserve)
			if p == nil {
				t.Fatalf("New(%d, %d): nil", n, reserve)
			}
			holds(t, "New", p, free(n)...)
		}
		for _, reserve := range []int{-1, -2, -n, n + 1, n + 2, 1 << 32, 1<<32 + 1, -1 << 32, math.MinInt, math.MaxInt} {
			if p := frames.New(n, reserve); p != nil {
				t.Errorf("New(%d, %d): a pool, want nil", n, reserve)
			}
		}
	}
	for _, n := range []int{0, -1, -2, -maxFrames, math.MinInt, maxFrames + 1, maxFrames + 2, 1 << 16, 1 << 32, 1<<32 + 1, math.MaxInt} {
		for _, reserve := range []int{0, 1, -1, n - 1, n, n + 1, maxFrames, math.MinInt, math.MaxInt} {
			if p := frames.New(n, reserve); p != nil {
				t.Errorf("New(%d, %d): a pool, want nil", n, reserve)
			}
		}
	}
}

func TestNewIsApart(t *testing.T) { // P6.1
	a, b := pool(t, 0, free(2)...), pool(t, 1, free(2)...)
	takes(t, "the first pool", a, frames.Anon, 1, 2, 0, api.OK)
	holds(t, "the second pool", b, free(2)...)
	takes(t, "the second pool", b, frames.File, 3, 4, 0, api.OK)
	tells(t, "the second pool: Wire", b.Wire(0, 1), api.OK)
	tells(t, "the first pool: Give", a.Give(0), api.OK)
	holds(t, "the first pool", a, free(2)...)
	holds(t, "the second pool", b, held(frames.File, 3, 4, 1, 0), frames.Frame{})
}

func TestChaptersExample(t *testing.T) { // P6.1
	p := frames.New(3, 1)
	takes(t, "the first", p, frames.Anon, 1, 2, 0, api.OK)
	takes(t, "the second", p, frames.Anon, 1, 2, 1, api.OK)
	takes(t, "the third", p, frames.Anon, 1, 2, 0, api.ErrNoMem)
	takes(t, "a table", p, frames.Table, 3, 4, 2, api.OK)
	holds(t, "the example", p, of(frames.Anon, 1, 2), of(frames.Anon, 1, 2), of(frames.Table, 3, 4))
}

func TestTake(t *testing.T) { // P6.1
	for _, class := range classes() {
		p := frames.New(3, 0)
		takes(t, "the first", p, class, 7, 8, 0, api.OK)
		holds(t, "the first", p, of(class, 7, 8), frames.Frame{}, frames.Frame{})
		takes(t, "the second", p, class, 7, 8, 1, api.OK)
		holds(t, "the second", p, of(class, 7, 8), of(class, 7, 8), frames.Frame{})
		takes(t, "the last one", p, class, 0, 0, 2, api.OK)
		want := []frames.Frame{of(class, 7, 8), of(class, 7, 8), of(class, 0, 0)}
		holds(t, "the last one", p, want...)
		for _, next := range classes() {
			takes(t, "none is Free", p, next, 7, 8, 0, api.ErrNoMem)
		}
		holds(t, "none is Free", p, want...)
	}
}

func TestTakeOfOwnersAndIndexes(t *testing.T) { // P6.1
	p := frames.New(maxFrames, 0)
	var want []frames.Frame
	for i, owner := range ends() {
		for _, index := range ends() {
			class := classes()[i%4]
			takes(t, "owners and indexes", p, class, owner, index, len(want), api.OK)
			want = append(want, of(class, owner, index))
		}
	}
	holds(t, "owners and indexes", p, append(want, free(maxFrames-len(want))...)...)
}

func TestTakeOfNoClass(t *testing.T) { // P6.1
	p, want := mixed(t)
	full := pool(t, 0, of(frames.Anon, 1, 2), of(frames.Table, 3, 4))
	kept := pool(t, 1, of(frames.Anon, 1, 2), frames.Frame{})
	for _, class := range noClass() {
		takes(t, "no class", p, class, 1, 2, 0, api.ErrInval)
		takes(t, "no class, and none is Free", full, class, 1, 2, 0, api.ErrInval)
		takes(t, "no class, and all that is Free is kept", kept, class, 1, 2, 0, api.ErrInval)
	}
	holds(t, "no class", p, want...)
	holds(t, "no class, and none is Free", full, of(frames.Anon, 1, 2), of(frames.Table, 3, 4))
	holds(t, "no class, and all that is Free is kept", kept, of(frames.Anon, 1, 2), frames.Frame{})
}

func TestTakeOfWhatIsKeptForTables(t *testing.T) { // P6.1
	for _, n := range []int{1, 2, 3, 9, maxFrames} {
		for _, reserve := range []int{0, 1, n / 2, n - 1, n} {
			what := "New(" + strconv.Itoa(n) + ", " + strconv.Itoa(reserve) + ")"
			p := frames.New(n, reserve)
			want := free(n)
			for i := range n - reserve {
				want[i] = of(others()[i%3], i, -i)
				takes(t, what, p, want[i].Class, i, -i, i, api.OK)
			}
			for i := n - reserve; i < n; i++ {
				for _, class := range others() { // as many as reserve are Free, and then less
					takes(t, what+": what is kept", p, class, 1, 2, 0, api.ErrNoMem)
				}
				holds(t, what, p, want...)
				want[i] = of(frames.Table, i, 2*i)
				takes(t, what, p, frames.Table, i, 2*i, i, api.OK)
			}
			for _, class := range classes() {
				takes(t, what+": none is Free", p, class, 1, 2, 0, api.ErrNoMem)
			}
			holds(t, what, p, want...)
		}
	}
}

func TestTakeAsFramesBecomeFree(t *testing.T) { // P6.1
	for _, class := range others() {
		p := pool(t, 2, slices.Repeat([]frames.Frame{of(frames.Table, 1, 1)}, 5)...)
		for n, frame := range []int{4, 1} { // one less than reserve are Free, and as many as that
			tells(t, "Give", p.Give(frame), api.OK)
			takes(t, strconv.Itoa(n+1)+" of 5 Free", p, class, 1, 2, 0, api.ErrNoMem)
		}
		tells(t, "Give", p.Give(3), api.OK)
		takes(t, "3 of 5 Free", p, class, 1, 2, 1, api.OK) // the kept ones are a number, not some frames
		takes(t, "2 of 5 Free", p, class, 1, 2, 0, api.ErrNoMem)
		takes(t, "2 of 5 Free", p, frames.Table, 3, 4, 3, api.OK)
		takes(t, "1 of 5 Free", p, frames.Table, 5, 6, 4, api.OK)
		takes(t, "none of 5 Free", p, frames.Table, 7, 8, 0, api.ErrNoMem)
		holds(t, "behind it all", p, of(frames.Table, 1, 1), of(class, 1, 2), of(frames.Table, 1, 1), of(frames.Table, 3, 4), of(frames.Table, 5, 6))
	}
}

func TestTablesTakeWhatIsNotKeptToo(t *testing.T) { // P6.1
	p := frames.New(4, 1)
	for i := range 3 {
		takes(t, "tables first", p, frames.Table, i, i, i, api.OK)
	}
	takes(t, "what is left is kept", p, frames.Loose, 1, 1, 0, api.ErrNoMem)
	tells(t, "Give", p.Give(0), api.OK)
	takes(t, "one is not", p, frames.Loose, 1, 1, 0, api.OK)
	holds(t, "behind it", p, of(frames.Loose, 1, 1), of(frames.Table, 1, 1), of(frames.Table, 2, 2), frames.Frame{})
}

func TestTakeOfTheLowestThatIsFree(t *testing.T) { // P6.1
	p := pool(t, 0, slices.Repeat([]frames.Frame{of(frames.Anon, 1, 1)}, 6)...)
	for _, frame := range []int{3, 1, 5} {
		tells(t, "Give", p.Give(frame), api.OK)
	}
	takes(t, "behind Gives", p, frames.File, 2, 2, 1, api.OK)
	tells(t, "Give", p.Give(0), api.OK)
	for _, frame := range []int{0, 3, 5} {
		takes(t, "behind Gives", p, frames.File, 2, 2, frame, api.OK)
	}
	takes(t, "none is left", p, frames.File, 2, 2, 0, api.ErrNoMem)
}

func TestTakeBehindGiveHasNothingOfIt(t *testing.T) { // P6.1
	p := pool(t, 0, held(frames.Anon, 8, 9, 3, 4))
	tells(t, "Wire", p.Wire(0, -3), api.OK)
	tells(t, "Loan", p.Loan(0, -4), api.OK)
	tells(t, "Give", p.Give(0), api.OK)
	holds(t, "Give", p, frames.Frame{})
	takes(t, "Take", p, frames.Table, 1, 2, 0, api.OK)
	holds(t, "Take", p, of(frames.Table, 1, 2))
}

func TestGive(t *testing.T) { // P6.1
	for i := range 4 {
		p, want := mixed(t)
		tells(t, "Give", p.Give(i), api.OK)
		want[i] = frames.Frame{}
		holds(t, "Give", p, want...)
		tells(t, "Give once more", p.Give(i), api.ErrInval)
		holds(t, "Give once more", p, want...)
	}
}

func TestGiveOfTheEnds(t *testing.T) { // P6.1
	want := slices.Repeat([]frames.Frame{of(frames.Loose, math.MinInt, math.MaxInt)}, maxFrames)
	p := pool(t, maxFrames, want...)
	for _, frame := range []int{0, maxFrames - 1} {
		tells(t, "Give", p.Give(frame), api.OK)
		want[frame] = frames.Frame{}
		holds(t, "Give", p, want...)
	}
}

func TestGiveOfWhatMayNotBeGiven(t *testing.T) { // P6.1
	p, want := mixed(t)
	for _, frame := range noFrame(len(want)) {
		tells(t, "no such frame: Give", p.Give(frame), api.ErrNone)
	}
	tells(t, "a frame that is Free: Give", p.Give(7), api.ErrInval)
	for _, frame := range []int{4, 5, 6} {
		tells(t, "a frame that is held: Give", p.Give(frame), api.ErrBusy)
	}
	holds(t, "Give with errors", p, want...)
}

func TestGiveOfWhatWasHeld(t *testing.T) { // P6.1, P6.2
	for _, class := range classes() {
		p := pool(t, 0, held(class, 3, 4, 2, 1), of(class, 5, 6))
		tells(t, "wired twice, lent: Give", p.Give(0), api.ErrBusy)
		tells(t, "Wire", p.Wire(0, -2), api.OK)
		tells(t, "lent: Give", p.Give(0), api.ErrBusy)
		holds(t, "lent", p, held(class, 3, 4, 0, 1), of(class, 5, 6))
		tells(t, "Loan", p.Loan(0, -1), api.OK)
		tells(t, "Wire", p.Wire(0, 2), api.OK)
		tells(t, "wired twice: Give", p.Give(0), api.ErrBusy)
		tells(t, "Wire", p.Wire(0, -1), api.OK)
		tells(t, "wired: Give", p.Give(0), api.ErrBusy)
		holds(t, "wired", p, held(class, 3, 4, 1, 0), of(class, 5, 6))
		tells(t, "Wire", p.Wire(0, -1), api.OK)
		tells(t, "not held: Give", p.Give(0), api.OK)
		holds(t, "not held", p, frames.Frame{}, of(class, 5, 6))
	}
}

func TestOwn(t *testing.T) { // P6.2
	for _, class := range classes() {
		p, want := mixed(t)
		for i := range want[:7] { // what is wired and lent stays so
			what := "Own of frame " + strconv.Itoa(i)
			tells(t, what, p.Own(i, class, 20+i, -i), api.OK)
			want[i].Class, want[i].Owner, want[i].Index = class, 20+i, -i
			holds(t, what, p, want...)
			tells(t, what+", once more", p.Own(i, class, 20+i, -i), api.OK)
			holds(t, what+", once more", p, want...)
		}
	}
}

func TestOwnOfOwnersAndIndexes(t *testing.T) { // P6.2
	p := pool(t, 0, of(frames.Anon, 1, 2), held(frames.File, 3, 4, 5, 6))
	for i, owner := range ends() {
		for _, index := range ends() {
			class := classes()[i%4]
			tells(t, "Own", p.Own(0, class, owner, index), api.OK)
			tells(t, "Own", p.Own(1, class, index, owner), api.OK)
			holds(t, "Own", p, of(class, owner, index), held(class, index, owner, 5, 6))
		}
	}
}

func TestOwnHangsOnNoReserve(t *testing.T) { // P6.2
	p := pool(t, 2, of(frames.Table, 1, 1), of(frames.Table, 2, 2))
	tells(t, "Own", p.Own(1, frames.Anon, 3, 3), api.OK)
	holds(t, "Own", p, of(frames.Table, 1, 1), of(frames.Anon, 3, 3))
}

func TestOwnOfWhatMayNotBeOwned(t *testing.T) { // P6.2
	p, want := mixed(t)
	for _, frame := range noFrame(len(want)) {
		tells(t, "no such frame: Own", p.Own(frame, frames.Anon, 1, 2), api.ErrNone)
		for _, class := range noClass() {
			tells(t, "no such frame, and no class: Own", p.Own(frame, class, 1, 2), api.ErrNone)
		}
	}
	for _, class := range classes() {
		tells(t, "a frame that is Free: Own", p.Own(7, class, 1, 2), api.ErrInval)
	}
	for _, class := range noClass() {
		for i := range want {
			tells(t, "no class: Own", p.Own(i, class, 1, 2), api.ErrInval)
		}
	}
	holds(t, "Own with errors", p, want...)
}

func TestOwnBehindGive(t *testing.T) { // P6.1, P6.2
	p := pool(t, 0, of(frames.Anon, 1, 2))
	tells(t, "Give", p.Give(0), api.OK)
	tells(t, "Own behind Give", p.Own(0, frames.Anon, 1, 2), api.ErrInval)
	holds(t, "Own behind Give", p, frames.Frame{})
	takes(t, "Take", p, frames.Loose, 3, 4, 0, api.OK)
	tells(t, "Own behind Take", p.Own(0, frames.File, 5, 6), api.OK)
	holds(t, "Own behind Take", p, of(frames.File, 5, 6))
}

// counter is Wire or Loan: what is done to one count of a frame.
type counter struct {
	name string
	call func(p *frames.Pool, frame, by int) api.Errno
	of   func(f *frames.Frame) *int
}

func counters() []counter {
	return []counter{{"Wire", (*frames.Pool).Wire, wire}, {"Loan", (*frames.Pool).Loan, loan}}
}

func wire(f *frames.Frame) *int { return &f.Wire }

func loan(f *frames.Frame) *int { return &f.Loan }

func TestCounts(t *testing.T) { // P6.2
	steps := []struct {
		by, count int
		err       api.Errno
	}{
		{0, 0, api.OK}, {-1, 0, api.ErrInval}, {1, 1, api.OK}, {-2, 1, api.ErrInval}, {-1, 0, api.OK},
		{maxCount, maxCount, api.OK}, {0, maxCount, api.OK}, {1, maxCount, api.ErrInval}, {-1, maxCount - 1, api.OK},
		{2, maxCount - 1, api.ErrInval}, {1, maxCount, api.OK}, {-maxCount - 1, maxCount, api.ErrInval},
		{-maxCount, 0, api.OK}, {maxCount + 1, 0, api.ErrInval}, {7, 7, api.OK}, {5, 12, api.OK}, {-4, 8, api.OK},
		{maxCount - 7, 8, api.ErrInval}, {-9, 8, api.ErrInval}, {maxCount - 8, maxCount, api.OK},
	}
	for _, c := range counters() {
		for at := range 7 { // frames of each class, and some that are held already
			p, want := mixed(t)
			tells(t, c.name, c.call(p, at, -*c.of(&want[at])), api.OK)
			for i, s := range steps {
				what := c.name + " of frame " + strconv.Itoa(at) + ", step " + strconv.Itoa(i)
				tells(t, what, c.call(p, at, s.by), s.err)
				*c.of(&want[at]) = s.count
				holds(t, what, p, want...)
			}
		}
	}
}

func TestCountsOfNumbersAtTheirEnds(t *testing.T) { // P6.2, R6
	far := []int{math.MinInt, math.MinInt + 1, math.MinInt + maxCount, math.MaxInt, math.MaxInt - 1, math.MaxInt - maxCount,
		1 << 32, -1 << 32, 1<<32 + 1, 1 - 1<<32, 1 << 31, 1 << 62, -1 << 62}
	for _, c := range counters() {
		for _, n := range []int{0, 1, 5, maxCount - 1, maxCount} {
			want := of(frames.Anon, 1, 2)
			*c.of(&want) = n
			p := pool(t, 0, want, frames.Frame{})
			for _, by := range far {
				tells(t, c.name+" of a frame with "+strconv.Itoa(n)+" by "+strconv.Itoa(by), c.call(p, 0, by), api.ErrInval)
				holds(t, c.name, p, want, frames.Frame{})
			}
		}
	}
}

func TestCountsOfWhatHasNone(t *testing.T) { // P6.2
	for _, c := range counters() {
		p, want := mixed(t)
		for _, by := range append(ends(), maxCount, maxCount+1) {
			for _, frame := range noFrame(len(want)) {
				tells(t, c.name+" of no such frame", c.call(p, frame, by), api.ErrNone)
			}
			tells(t, c.name+" of a frame that is Free", c.call(p, 7, by), api.ErrInval)
		}
		holds(t, c.name+" with errors", p, want...)
		tells(t, "Give", p.Give(0), api.OK)
		want[0] = frames.Frame{}
		tells(t, c.name+" behind Give", c.call(p, 0, 1), api.ErrInval)
		holds(t, c.name+" behind Give", p, want...)
	}
}

func TestCountsAreApart(t *testing.T) { // P6.2
	p := pool(t, 0, of(frames.Anon, 1, 2), of(frames.Anon, 1, 2))
	tells(t, "Wire", p.Wire(0, maxCount), api.OK)
	tells(t, "Loan", p.Loan(0, maxCount), api.OK) // each count has its bounds for itself
	tells(t, "Wire of another", p.Wire(1, 3), api.OK)
	holds(t, "counts", p, held(frames.Anon, 1, 2, maxCount, maxCount), held(frames.Anon, 1, 2, 3, 0))
	tells(t, "Loan below 0", p.Loan(1, -1), api.ErrInval)
	tells(t, "Own", p.Own(0, frames.Table, 8, 9), api.OK)
	holds(t, "counts", p, held(frames.Table, 8, 9, maxCount, maxCount), held(frames.Anon, 1, 2, 3, 0))
}

func TestGet(t *testing.T) { // P6.2
	for _, n := range []int{1, 2, maxFrames} {
		want := free(n)
		want[n-1] = held(frames.Loose, -5, math.MaxInt, 1, maxCount)
		p := pool(t, n, want...) // which asks for -1, for the last one and for the one behind it
		f, _ := p.Get(n - 1)
		f.Class, f.Owner, f.Wire = frames.Free, 77, 78 // an answer is a copy
		holds(t, "Get", p, want...)
	}
}

func TestCountOfClasses(t *testing.T) { // P6.2
	var want []frames.Frame
	for class := range 5 {
		f := frames.Frame{}
		if class != frames.Free {
			f = of(class, 1, 2)
		}
		want = append(want, slices.Repeat([]frames.Frame{f}, 2*class+1)...)
	}
	p := pool(t, 0, want...)
	for class := range 5 {
		if got := p.Count(class); got != 2*class+1 {
			t.Errorf("Count(%d): %d, want %d", class, got, 2*class+1)
		}
	}
	if p.Free() != 1 {
		t.Errorf("Free: %d, want 1", p.Free())
	}
}

// model is a pool that is asked and changed in the plainest way.
type model struct {
	frames  []frames.Frame
	reserve int
}

func (m *model) isClass(class int) bool { return slices.Contains(classes(), class) }

func (m *model) take(f frames.Frame) (int, api.Errno) {
	if !m.isClass(f.Class) {
		return 0, api.ErrInval
	}
	var left []int
	for i, g := range m.frames {
		if g.Class == frames.Free {
			left = append(left, i)
		}
	}
	if len(left) == 0 || f.Class != frames.Table && len(left) <= m.reserve {
		return 0, api.ErrNoMem
	}
	m.frames[left[0]] = f
	return left[0], api.OK
}

// at tells a frame to which something may be done, or why there is none.
func (m *model) at(i int) (*frames.Frame, api.Errno) {
	if i < 0 || i >= len(m.frames) {
		return nil, api.ErrNone
	}
	if m.frames[i].Class == frames.Free {
		return nil, api.ErrInval
	}
	return &m.frames[i], api.OK
}

func (m *model) give(i int) api.Errno {
	f, err := m.at(i)
	if err != api.OK {
		return err
	}
	if f.Wire > 0 || f.Loan > 0 {
		return api.ErrBusy
	}
	*f = frames.Frame{}
	return api.OK
}

func (m *model) own(i int, g frames.Frame) api.Errno {
	f, err := m.at(i)
	if err != api.OK {
		return err
	}
	if !m.isClass(g.Class) {
		return api.ErrInval
	}
	g.Wire, g.Loan = f.Wire, f.Loan
	*f = g
	return api.OK
}

// add adds to a count by numbers that have no ends.
func (m *model) add(i, by int, count func(f *frames.Frame) *int) api.Errno {
	f, err := m.at(i)
	if err != api.OK {
		return err
	}
	n := new(big.Int).Add(big.NewInt(int64(*count(f))), big.NewInt(int64(by)))
	if n.Sign() < 0 || n.Cmp(big.NewInt(maxCount)) > 0 {
		return api.ErrInval
	}
	*count(f) = int(n.Int64())
	return api.OK
}

// dice tells numbers one after the other that hang on the first one alone.
type dice uint32

func (d *dice) throw(n int) int {
	*d = *d*1664525 + 1013904223
	return int(*d>>8) % n
}

// pick tells one of these numbers.
func (d *dice) pick(from ...int) int { return from[d.throw(len(from))] }

// by tells by how much a count is to change: often a little, sometimes far too much.
func (d *dice) by() int {
	if d.throw(8) == 0 {
		return d.pick(math.MinInt, math.MaxInt, maxCount, -maxCount, maxCount-1, 1-maxCount, 1<<32)
	}
	return d.throw(4) - 2
}

// step does one thing to both a pool and a model, and tells what each answered.
func step(d *dice, p *frames.Pool, m *model) (n, wantN int, err, want api.Errno) {
	frame := d.throw(len(m.frames)+2) - 1
	f := of(d.throw(4)+1, d.throw(100)-50, d.throw(100)-50)
	if d.throw(16) == 0 {
		f.Class = d.pick(noClass()...)
	}
	by := d.by()
	switch d.throw(10) {
	case 0, 1, 2:
		n, err = p.Take(f.Class, f.Owner, f.Index)
		wantN, want = m.take(f)
	case 3, 4:
		err, want = p.Give(frame), m.give(frame)
	case 5:
		err, want = p.Own(frame, f.Class, f.Owner, f.Index), m.own(frame, f)
	case 6, 7:
		err, want = p.Wire(frame, by), m.add(frame, by, wire)
	default:
		err, want = p.Loan(frame, by), m.add(frame, by, loan)
	}
	return n, wantN, err, want
}

func TestAgainstPlainFrames(t *testing.T) { // P6.1, P6.2, P6.3
	for _, n := range []int{1, 2, 3, 8, 40} {
		for _, reserve := range []int{0, 1, n / 2, n} {
			p, m := frames.New(n, reserve), &model{free(n), reserve}
			d := dice(100*n + reserve)
			for i := range 2500 {
				what := "New(" + strconv.Itoa(n) + ", " + strconv.Itoa(reserve) + "), step " + strconv.Itoa(i)
				if got, wantN, err, want := step(&d, p, m); got != wantN || err != want {
					t.Fatalf("%s: %d, %v, want %d, %v", what, got, err, wantN, want)
				}
				holds(t, what, p, m.frames...)
			}
		}
	}
}

func TestCountsOfAllClassesMakeAllFrames(t *testing.T) { // P6.3
	p := frames.New(maxFrames, 16)
	want := free(maxFrames)
	for i := range maxFrames {
		want[i] = of(classes()[i%4], i, i)
		if i >= maxFrames-16 {
			want[i].Class = frames.Table
		}
		takes(t, "all frames", p, want[i].Class, i, i, i, api.OK)
		counts(t, "behind Take", p, want)
	}
	for i := range maxFrames {
		at := i * 37 % maxFrames
		want[at].Class = classes()[i%3]
		tells(t, "Own", p.Own(at, want[at].Class, at, at), api.OK)
		counts(t, "behind Own", p, want)
	}
	for i := range maxFrames {
		at := i * 91 % maxFrames
		tells(t, "Give", p.Give(at), api.OK)
		want[at] = frames.Frame{}
		counts(t, "behind Give", p, want)
	}
	holds(t, "all given", p, free(maxFrames)...)
}

func TestPoolThatNoCallMade(t *testing.T) { // R5
	for what, p := range map[string]*frames.Pool{"nil": nil, "zero": {}, "New(0, 0)": frames.New(0, 0), "New(1, 2)": frames.New(1, 2)} {
		for range 2 {
			for _, n := range append(ends(), noClass()...) { // what else may be wrong is not looked at
				for _, class := range append(classes(), n) {
					takes(t, what, p, class, n, n, 0, api.ErrMade)
					tells(t, what+": Own", p.Own(n, class, n, n), api.ErrMade)
					tells(t, what+": Own", p.Own(0, class, n, n), api.ErrMade)
				}
				tells(t, what+": Give", p.Give(n), api.ErrMade)
				for _, c := range counters() {
					tells(t, what+": "+c.name, c.call(p, 0, n), api.ErrMade)
					tells(t, what+": "+c.name, c.call(p, n, 0), api.ErrMade)
				}
				if f, ok := p.Get(n); f != (frames.Frame{}) || ok {
					t.Errorf("%s: Get(%d): %v, %v, want zeros, false", what, n, f, ok)
				}
				if got := p.Count(n); got != 0 {
					t.Errorf("%s: Count(%d): %d, want 0", what, n, got)
				}
			}
			holds(t, what, p)
		}
	}
}
