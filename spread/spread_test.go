package spread_test

import (
	"math"
	"slices"
	"testing"

	"pantry/api"
	"pantry/spread"
)

const (
	maxItems = 4096
	most     = 1000000
)

// far has numbers that are nowhere near any item, number of items or count.
func far() []int {
	return []int{-2, -maxItems, -most - 2, most + 2, 1 << 31, 1 << 32, 1<<32 + 1, -1 << 32, 1 - 1<<32, 1 << 62, -1 << 62, math.MinInt, math.MinInt + 1, math.MaxInt, math.MaxInt - 1}
}

// noItem has numbers of which so many items have none.
func noItem(items int) []int { return append(far(), -1, items, items+1, items+maxItems) }

// noNumber has numbers that may not be numbers of items.
func noNumber() []int { return append(far(), -1, maxItems+1, maxItems+2, 2*maxItems) }

// row is a list of so many counts that are alike.
func row(n, count int) []int { return slices.Repeat([]int{count}, n) }

// rising is a list of counts no two of which are alike: from so many on.
func rising(n, from int) []int {
	list := make([]int, n)
	for i := range list {
		list[i] = from + i
	}
	return list
}

// made has such counts, each added by itself.
func made(t *testing.T, list ...int) *spread.Counts {
	t.Helper()
	c := spread.New(len(list))
	if c == nil {
		t.Fatalf("New(%d): nil", len(list))
	}
	for i, n := range list {
		if gone, err := c.Add(i, i+1, n); len(gone) != 0 || err != api.OK {
			t.Fatalf("made: Add(%d, %d, %d): %v, %v", i, i+1, n, gone, err)
		}
	}
	holds(t, "made", c, list)
	return c
}

// runs are what Runs tells of a list.
func runs(list []int) []api.Run {
	var out []api.Run
	for lo := 0; lo < len(list); {
		hi := lo
		for hi < len(list) && list[hi] == list[lo] {
			hi++
		}
		out = append(out, api.Run{Lo: lo, Hi: hi, N: list[lo]})
		lo = hi
	}
	return out
}

// holds asks everything of counts, which are to be as a list.
func holds(t *testing.T, what string, c *spread.Counts, list []int) {
	t.Helper()
	if n := c.Len(); n != len(list) {
		t.Fatalf("%s: Len: %d, want %d", what, n, len(list))
	}
	sum := 0
	for i, want := range list {
		if n := c.At(i); n != want {
			t.Fatalf("%s: At(%d): %d, want %d", what, i, n, want)
		}
		sum += want
	}
	for _, i := range noItem(len(list)) {
		if i >= 0 && i < len(list) {
			continue
		}
		if n := c.At(i); n != -1 {
			t.Fatalf("%s: At(%d): %d, want -1", what, i, n)
		}
	}
	if n := c.Sum(); n != sum {
		t.Fatalf("%s: Sum: %d, want %d", what, n, sum)
	}
	if r := c.Runs(); !slices.Equal(r, runs(list)) {
		t.Fatalf("%s: Runs: %v, want %v", what, r, runs(list))
	}
}

// adds asks Add for its answer.
func adds(t *testing.T, what string, c *spread.Counts, lo, hi, by int, want api.Errno, gone ...int) {
	t.Helper()
	if got, err := c.Add(lo, hi, by); !slices.Equal(got, gone) || err != want {
		t.Fatalf("%s: Add(%d, %d, %d): %v, %v, want %v, %v", what, lo, hi, by, got, err, gone, want)
	}
}

// grows asks Grow for its answer.
func grows(t *testing.T, what string, c *spread.Counts, n int, want api.Errno) {
	t.Helper()
	if err := c.Grow(n); err != want {
		t.Fatalf("%s: Grow(%d): %v, want %v", what, n, err, want)
	}
}

func TestNew(t *testing.T) { // P11.1
	for _, n := range []int{0, 1, 2, 5, maxItems - 1, maxItems} {
		c := spread.New(n)
		if c == nil {
			t.Fatalf("New(%d): nil", n)
		}
		holds(t, "New", c, row(n, 0))
	}
	for _, n := range noNumber() {
		if spread.New(n) != nil {
			t.Errorf("New(%d): not nil", n)
		}
	}
}

func TestNewIsApart(t *testing.T) { // P11.1
	a, b := spread.New(3), spread.New(3)
	adds(t, "the one", a, 0, 2, 7, api.OK)
	grows(t, "the one", a, 4, api.OK)
	holds(t, "the one", a, []int{7, 7, 0, 0})
	holds(t, "the other", b, row(3, 0))
}

func TestChaptersExample(t *testing.T) { // P11.1, P11.2
	c := spread.New(5)
	adds(t, "the example", c, 1, 4, 1, api.OK)
	adds(t, "the example", c, 2, 3, 1, api.OK)
	want := []api.Run{{Lo: 0, Hi: 1, N: 0}, {Lo: 1, Hi: 2, N: 1}, {Lo: 2, Hi: 3, N: 2}, {Lo: 3, Hi: 4, N: 1}, {Lo: 4, Hi: 5, N: 0}}
	if r := c.Runs(); !slices.Equal(r, want) {
		t.Errorf("Runs: %v, want %v", r, want)
	}
}

func TestAt(t *testing.T) { // P11.1
	c := made(t, 4, 4, 9, 0)
	for i, want := range []int{4, 4, 9, 0} {
		if n := c.At(i); n != want {
			t.Errorf("At(%d): %d, want %d", i, n, want)
		}
	}
	for _, i := range noItem(4) {
		if n := c.At(i); n != -1 {
			t.Errorf("At(%d): %d, want -1", i, n)
		}
	}
}

func TestAddOfItemsThatAreNot(t *testing.T) { // P11.1
	for _, n := range []int{0, 1, 3, maxItems} {
		list := rising(n, 3)
		c := made(t, list...)
		for _, by := range []int{0, 1, -1, math.MinInt, math.MaxInt} {
			for _, lo := range append(far(), -1) {
				if lo >= 0 && lo <= n {
					continue
				}
				adds(t, "lo is no item", c, lo, n, by, api.ErrInval)
				adds(t, "lo is no item", c, lo, lo, by, api.ErrInval)
				adds(t, "lo is no item", c, lo, 0, by, api.ErrInval)
			}
			for _, hi := range append(far(), -1, n+1, n+2) {
				if hi >= 0 && hi <= n {
					continue
				}
				adds(t, "hi is no item", c, 0, hi, by, api.ErrInval)
				adds(t, "hi is no item", c, n, hi, by, api.ErrInval)
				adds(t, "hi is no item", c, hi, hi, by, api.ErrInval)
			}
			adds(t, "both are no items", c, -1, n+1, by, api.ErrInval)
			adds(t, "both are no items", c, math.MinInt, math.MaxInt, by, api.ErrInval)
			adds(t, "both are no items", c, math.MaxInt, math.MinInt, by, api.ErrInval)
		}
		holds(t, "no items", c, list)
		adds(t, "all", c, 0, n, 1, api.OK)
		holds(t, "all", c, rising(n, 4))
	}
}

func TestAddWithLoAboveHi(t *testing.T) { // P11.1
	list := []int{5, 5, 6, 0}
	c := made(t, list...)
	for lo := range 5 {
		for hi := range lo {
			for _, by := range []int{0, 1, -1, math.MinInt, math.MaxInt} {
				adds(t, "lo above hi", c, lo, hi, by, api.ErrInval)
			}
		}
	}
	holds(t, "lo above hi", c, list)
}

func TestAddOfNoItem(t *testing.T) { // P11.1: there is no count that would be wrong
	for _, list := range [][]int{nil, {0}, {most}, {5, 5, 5, 6, 0, 0}} {
		c := made(t, list...)
		for at := range len(list) + 1 {
			for _, by := range []int{0, 1, -1, 5, -5, -6, most, most + 1, -most - 1, math.MinInt, math.MaxInt} {
				adds(t, "lo and hi alike", c, at, at, by, api.OK)
				holds(t, "lo and hi alike", c, list)
			}
		}
	}
}

func TestAddOfNothing(t *testing.T) { // P11.1: no count becomes 0 by it, as none changes
	list := []int{0, 0, 3, 3, 0, 1, most, 0}
	c := made(t, list...)
	for lo := range len(list) + 1 {
		for hi := lo; hi <= len(list); hi++ {
			adds(t, "by 0", c, lo, hi, 0, api.OK)
			holds(t, "by 0", c, list)
		}
	}
}

func TestAddToEachOfMany(t *testing.T) { // P11.1: the first, the last and those between come to the ends that a count may have
	const n = 9
	for at := range n {
		list := row(n, 500)
		list[at] = 100
		c := made(t, list...)
		adds(t, "to -1", c, 0, n, -101, api.ErrInval)
		adds(t, "to -1, by itself", c, at, at+1, -101, api.ErrInval)
		holds(t, "to -1", c, list)
		adds(t, "to 0", c, 0, n, -100, api.OK, at)
		for i := range list {
			list[i] -= 100
		}
		holds(t, "to 0", c, list)
		adds(t, "from 0 to -1", c, 0, n, -1, api.ErrInval)
		holds(t, "from 0 to -1", c, list)

		list = row(n, 500)
		list[at] = 900
		c = made(t, list...)
		adds(t, "to 1000001", c, 0, n, most-900+1, api.ErrInval)
		adds(t, "to 1000001, by itself", c, at, at+1, most-900+1, api.ErrInval)
		holds(t, "to 1000001", c, list)
		adds(t, "to 1000000", c, 0, n, most-900, api.OK)
		for i := range list {
			list[i] += most - 900
		}
		holds(t, "to 1000000", c, list)
		adds(t, "from 1000000 to 1000001", c, 0, n, 1, api.ErrInval)
		holds(t, "from 1000000 to 1000001", c, list)
	}
}

func TestAddToOneOfAsManyAsThereMayBe(t *testing.T) { // P11.1
	c, list := spread.New(maxItems), row(maxItems, 0)
	for _, at := range []int{0, 1, maxItems / 2, maxItems - 2, maxItems - 1} {
		adds(t, "to 1000000", c, at, at+1, most, api.OK)
		list[at] = most
		holds(t, "to 1000000", c, list)
		adds(t, "to 1000001", c, at, at+1, 1, api.ErrInval)
		adds(t, "all, one of them to 1000001", c, 0, maxItems, 1, api.ErrInval)
		adds(t, "to -1", c, at, at+1, -most-1, api.ErrInval)
		holds(t, "errors", c, list)
		adds(t, "to 0", c, at, at+1, -most, api.OK, at)
		list[at] = 0
		holds(t, "to 0", c, list)
		adds(t, "to -1", c, at, at+1, -1, api.ErrInval)
		holds(t, "to -1", c, list)
	}
}

func TestAddIsOfWholeNumbers(t *testing.T) { // P11.1, R6
	for _, count := range []int{0, 1, 2, most / 2, most - 1, most} {
		list := []int{7, count, 7}
		c := made(t, list...)
		for _, by := range append(far(), -1, 1, -count-1, most-count+1, -most, most, math.MaxInt-count, math.MaxInt-count+1, math.MinInt+count) {
			if by >= -count && by <= most-count {
				continue
			}
			adds(t, "no number runs over", c, 1, 2, by, api.ErrInval)
			adds(t, "no number runs over", c, 0, 3, by, api.ErrInval)
		}
		holds(t, "no number runs over", c, list)
		adds(t, "as far as may be", c, 1, 2, most-count, api.OK)
		holds(t, "as far as may be", c, []int{7, most, 7})
		adds(t, "as far back as may be", c, 1, 2, -most, api.OK, 1)
		holds(t, "as far back as may be", c, []int{7, 0, 7})
	}
}

func TestAddDoesAllOrNothing(t *testing.T) { // P11.1, R2: those ahead of the wrong one would be told, and changed
	list := []int{2, 2, 5, 2, 1, 2}
	c := made(t, list...)
	for lo := range 5 {
		for hi := 5; hi <= len(list); hi++ {
			adds(t, "item 4 would be below 0", c, lo, hi, -2, api.ErrInval)
			holds(t, "item 4 would be below 0", c, list)
		}
	}
	adds(t, "up to it", c, 0, 4, -2, api.OK, 0, 1, 3)
	holds(t, "up to it", c, []int{0, 0, 3, 0, 1, 2})
}

func TestAddTellsWhatBecameNought(t *testing.T) { // P11.1
	c := made(t, 3, 0, 3, 3, 4, 3, 8, 3)
	adds(t, "one is 0 already", c, 0, 8, -3, api.ErrInval)
	adds(t, "some", c, 2, 8, -3, api.OK, 2, 3, 5, 7)
	holds(t, "some", c, []int{3, 0, 0, 0, 1, 0, 5, 0})
	adds(t, "up from 0", c, 1, 8, 1, api.OK)
	adds(t, "down again", c, 1, 8, -1, api.OK, 1, 2, 3, 5, 7)
	adds(t, "by 0 among noughts", c, 1, 8, 0, api.OK)
	adds(t, "none of these", c, 6, 7, -4, api.OK)
	adds(t, "the first one", c, 0, 1, -3, api.OK, 0)
	holds(t, "all of it", c, []int{0, 0, 0, 0, 1, 0, 1, 0})

	c = spread.New(maxItems)
	adds(t, "as many as there may be", c, 0, maxItems, 2, api.OK)
	adds(t, "as many as there may be", c, 0, maxItems, -1, api.OK)
	adds(t, "as many as there may be", c, 0, maxItems, -1, api.OK, rising(maxItems, 0)...)
	holds(t, "as many as there may be", c, row(maxItems, 0))
}

func TestWhatAddTellsIsTheCallers(t *testing.T) { // R3
	c := made(t, 1, 1, 1, 5)
	a, _ := c.Add(0, 3, -1)
	b, _ := c.Add(3, 4, -5)
	if !slices.Equal(a, []int{0, 1, 2}) || !slices.Equal(b, []int{3}) {
		t.Fatalf("%v, %v, want [0 1 2], [3]", a, b)
	}
	if slices.ContainsFunc(a[len(a):cap(a)], func(i int) bool { return i != 0 }) {
		t.Errorf("spare room: %v", a[:cap(a)])
	}
	a = a[:cap(a)]
	for i := range a {
		a[i] = 99
	}
	_ = append(b, 77)
	holds(t, "lists that were changed", c, row(4, 0))
	adds(t, "behind that", c, 0, 4, 1, api.OK)
	adds(t, "behind that", c, 0, 4, -1, api.OK, 0, 1, 2, 3)
	if !slices.Equal(b, []int{3}) {
		t.Errorf("a list that was told ahead: %v", b)
	}
}

func TestSum(t *testing.T) { // P11.1
	c := spread.New(0)
	sum := func(what string, want int) {
		t.Helper()
		if n := c.Sum(); n != want {
			t.Errorf("%s: Sum: %d, want %d", what, n, want)
		}
	}
	sum("no items", 0)
	grows(t, "Sum", c, 4, api.OK)
	sum("noughts", 0)
	adds(t, "Sum", c, 1, 4, 10, api.OK)
	sum("three of 10", 30)
	adds(t, "Sum", c, 2, 3, -4, api.OK)
	sum("one is less", 26)
	adds(t, "Sum", c, 0, 4, -7, api.ErrInval)
	sum("behind an error", 26)
	grows(t, "Sum", c, maxItems, api.OK)
	sum("behind Grow", 26)
	adds(t, "Sum", c, 0, maxItems, most-10, api.OK)
	adds(t, "Sum", c, 4, maxItems, 10, api.OK)
	adds(t, "Sum", c, 0, 1, 10, api.OK)
	adds(t, "Sum", c, 2, 3, 4, api.OK)
	sum("as much as there may be", maxItems*most)
}

func TestRuns(t *testing.T) { // P11.2
	for _, list := range [][]int{
		nil, {0}, {most}, {0, 0, 0}, {4, 4, 4, 4}, {1, 0}, {0, 1}, {0, 1, 0}, {2, 2, 1, 1}, {1, 2, 2, 3},
		rising(100, 0), row(maxItems, 3), rising(maxItems, 0), slices.Repeat([]int{0, 1}, maxItems/2),
	} {
		c := made(t, list...)
		if r := c.Runs(); !slices.Equal(r, runs(list)) {
			t.Errorf("Runs: %v, want %v", r, runs(list))
		}
	}
	if r := spread.New(0).Runs(); len(r) != 0 {
		t.Errorf("no items: Runs: %v", r)
	}
	if r := spread.New(1).Runs(); !slices.Equal(r, []api.Run{{Lo: 0, Hi: 1, N: 0}}) {
		t.Errorf("one item: Runs: %v", r)
	}
	if r := spread.New(maxItems).Runs(); !slices.Equal(r, []api.Run{{Lo: 0, Hi: maxItems, N: 0}}) {
		t.Errorf("all are alike: Runs: %v", r)
	}
}

func TestRunsOfPartsOfARun(t *testing.T) { // P11.2, P11.3
	for _, c := range []struct {
		what   string
		lo, hi int
		want   []api.Run
	}{
		{"the beginning", 2, 4, []api.Run{{Lo: 0, Hi: 2, N: 1}, {Lo: 2, Hi: 4, N: 5}, {Lo: 4, Hi: 8, N: 3}, {Lo: 8, Hi: 10, N: 1}}},
		{"the middle", 4, 6, []api.Run{{Lo: 0, Hi: 2, N: 1}, {Lo: 2, Hi: 4, N: 3}, {Lo: 4, Hi: 6, N: 5}, {Lo: 6, Hi: 8, N: 3}, {Lo: 8, Hi: 10, N: 1}}},
		{"the end", 6, 8, []api.Run{{Lo: 0, Hi: 2, N: 1}, {Lo: 2, Hi: 6, N: 3}, {Lo: 6, Hi: 8, N: 5}, {Lo: 8, Hi: 10, N: 1}}},
		{"the whole run", 2, 8, []api.Run{{Lo: 0, Hi: 2, N: 1}, {Lo: 2, Hi: 8, N: 5}, {Lo: 8, Hi: 10, N: 1}}},
		{"over several runs", 1, 9, []api.Run{{Lo: 0, Hi: 1, N: 1}, {Lo: 1, Hi: 2, N: 3}, {Lo: 2, Hi: 8, N: 5}, {Lo: 8, Hi: 9, N: 3}, {Lo: 9, Hi: 10, N: 1}}},
		{"all", 0, 10, []api.Run{{Lo: 0, Hi: 2, N: 3}, {Lo: 2, Hi: 8, N: 5}, {Lo: 8, Hi: 10, N: 3}}},
		{"as the one behind", 0, 2, []api.Run{{Lo: 0, Hi: 8, N: 3}, {Lo: 8, Hi: 10, N: 1}}},
		{"as the one ahead", 8, 10, []api.Run{{Lo: 0, Hi: 2, N: 1}, {Lo: 2, Hi: 10, N: 3}}},
		{"a part, as the one behind", 1, 2, []api.Run{{Lo: 0, Hi: 1, N: 1}, {Lo: 1, Hi: 8, N: 3}, {Lo: 8, Hi: 10, N: 1}}},
		{"a part, as the one ahead", 8, 9, []api.Run{{Lo: 0, Hi: 2, N: 1}, {Lo: 2, Hi: 9, N: 3}, {Lo: 9, Hi: 10, N: 1}}},
	} {
		list := []int{1, 1, 3, 3, 3, 3, 3, 3, 1, 1}
		x := made(t, list...)
		adds(t, c.what, x, c.lo, c.hi, 2, api.OK)
		if r := x.Runs(); !slices.Equal(r, c.want) {
			t.Errorf("%s: Runs: %v, want %v", c.what, r, c.want)
		}
		adds(t, c.what, x, c.lo, c.hi, -2, api.OK)
		holds(t, c.what, x, list)
	}
}

func TestRunsThatBecomeAlike(t *testing.T) { // P11.3
	c := made(t, 1, 1, 3, 3, 1, 1)
	adds(t, "as those on both sides", c, 2, 4, -2, api.OK)
	holds(t, "as those on both sides", c, row(6, 1))
	if r := c.Runs(); len(r) != 1 {
		t.Errorf("Runs: %v, want one", r)
	}
	c = made(t, 2, 2, 5, 5, 2, 2)
	adds(t, "the outer ones, one by one", c, 0, 2, 3, api.OK)
	adds(t, "the outer ones, one by one", c, 4, 6, 3, api.OK)
	if r := c.Runs(); len(r) != 1 {
		t.Errorf("Runs: %v, want one", r)
	}
	c = made(t, 1, 2, 3, 4)
	for i := range 3 {
		adds(t, "stairs", c, i, i+1, 3-i, api.OK)
	}
	holds(t, "stairs", c, row(4, 4))
}

func TestRunsAreTheCallers(t *testing.T) { // P11.2, R3
	for _, list := range [][]int{{4}, {1, 2, 2, 3, 0, 0}, rising(70, 0)} {
		c := made(t, list...)
		a, b := c.Runs(), c.Runs()
		if slices.ContainsFunc(a[len(a):cap(a)], func(r api.Run) bool { return r != (api.Run{}) }) {
			t.Errorf("spare room: %v", a[:cap(a)])
		}
		a = a[:cap(a)]
		for i := range a {
			a[i] = api.Run{Lo: 9, Hi: -9, N: 99}
		}
		_ = append(a, api.Run{N: 98})
		holds(t, "a list that was changed", c, list)
		if !slices.Equal(b, runs(list)) {
			t.Errorf("another list: %v", b)
		}
		adds(t, "behind that", c, 0, 1, 50, api.OK)
		grows(t, "behind that", c, 80, api.OK)
		adds(t, "behind that", c, 0, 80, 1, api.OK)
		if !slices.Equal(b, runs(list)) {
			t.Errorf("a list that was told ahead: %v", b)
		}
	}
}

func TestGrow(t *testing.T) { // P11.2
	for _, list := range [][]int{nil, {0}, {7}, {7, 0}, {0, 7}, {1, 2, 2, 0, 0}, {0, 0, 0}} {
		for _, more := range []int{0, 1, 2, 60, maxItems - len(list)} {
			c := made(t, list...)
			grows(t, "Grow", c, len(list)+more, api.OK)
			want := append(slices.Clone(list), row(more, 0)...)
			holds(t, "Grow", c, want)
			grows(t, "Grow to Len", c, len(list)+more, api.OK)
			holds(t, "Grow to Len", c, want)
			adds(t, "the new ones", c, len(list), len(list)+more, 7, api.OK)
			holds(t, "the new ones", c, append(slices.Clone(list), row(more, 7)...))
		}
	}
}

func TestGrowStepByStep(t *testing.T) { // P11.2, P11.3
	c := spread.New(0)
	var list []int
	for i := range 40 {
		grows(t, "one more", c, i+1, api.OK)
		list = append(list, 0)
		holds(t, "one more", c, list)
		if n := i / 3 % 3; n > 0 {
			adds(t, "one more", c, i, i+1, n, api.OK)
			list[i] = n
		}
		holds(t, "one more", c, list)
	}
}

func TestGrowToNumbersThatMayNotBe(t *testing.T) { // P11.2
	for _, list := range [][]int{nil, {0}, {5}, {5, 5, 0, 2}, rising(maxItems, 1)} {
		c := made(t, list...)
		for _, n := range append(noNumber(), len(list)-1, len(list)-2, 0) {
			if n >= len(list) && n <= maxItems {
				continue
			}
			grows(t, "may not be", c, n, api.ErrInval)
		}
		holds(t, "may not be", c, list)
		grows(t, "behind that", c, maxItems, api.OK)
		holds(t, "behind that", c, append(slices.Clone(list), row(maxItems-len(list), 0)...))
		grows(t, "no room", c, maxItems+1, api.ErrInval)
		grows(t, "one less", c, maxItems-1, api.ErrInval)
	}
}

func TestCopy(t *testing.T) { // P11.2
	for _, list := range [][]int{{0}, {9}, {1, 2, 2, 3}, {0, 0, 5, 5}, {3, 3, 3, 3}, rising(100, 0)} {
		c := made(t, list...)
		d := c.Copy()
		if d == nil || d == c {
			t.Fatal("Copy: nil, or the same one")
		}
		holds(t, "the copy", d, list)
		holds(t, "what was copied", c, list)

		adds(t, "what was copied", c, 0, len(list), 1, api.OK)
		adds(t, "what was copied", c, 0, 1, 40, api.OK)
		grows(t, "what was copied", c, len(list)+2, api.OK)
		holds(t, "the copy stays", d, list)
		other := append(slices.Clone(list), -1, -1)
		for i := range other {
			other[i]++
		}
		other[0] += 40
		holds(t, "what was copied", c, other)

		adds(t, "the copy", d, len(list)-1, len(list), 500, api.OK)
		grows(t, "the copy", d, len(list)+1, api.OK)
		adds(t, "the copy", d, len(list), len(list)+1, 6, api.OK)
		holds(t, "what was copied stays", c, other)
		mine := append(slices.Clone(list), 6)
		mine[len(list)-1] += 500
		holds(t, "the copy", d, mine)

		e := d.Copy()
		adds(t, "the copy", d, len(list), len(list)+1, -6, api.OK, len(list))
		holds(t, "a copy of the copy", e, mine)
	}
}

func TestCopyOfNoItems(t *testing.T) { // P11.2
	c := spread.New(0)
	d := c.Copy()
	if d == nil {
		t.Fatal("Copy of no items: nil")
	}
	holds(t, "the copy", d, nil)
	adds(t, "the copy", d, 0, 0, 5, api.OK)
	grows(t, "the copy", d, 3, api.OK)
	adds(t, "the copy", d, 1, 2, 5, api.OK)
	holds(t, "the copy", d, []int{0, 5, 0})
	holds(t, "what was copied", c, nil)
	adds(t, "what was copied", c, 0, 1, 5, api.ErrInval)
	grows(t, "what was copied", c, 1, api.OK)
	holds(t, "the copy", d, []int{0, 5, 0})
}

func TestAddingAndTakingAwayAgain(t *testing.T) { // P11.3
	for _, list := range [][]int{row(6, 2), {1, 1, 2, 2, 3, 3}, {5, 3, 5, 3, 5, 3}, {0, 0, 2, 2, 4, 4}, {4, 2, 0, 0, 2, 4}} {
		c := made(t, list...)
		for lo := range 7 {
			for hi := lo; hi <= 6; hi++ {
				for _, by := range []int{1, 2, 17, most - 5} {
					other := slices.Clone(list)
					var noughts []int
					for i := lo; i < hi; i++ {
						other[i] += by
						if list[i] == 0 {
							noughts = append(noughts, i)
						}
					}
					adds(t, "adding", c, lo, hi, by, api.OK)
					holds(t, "adding", c, other)
					adds(t, "taking away", c, lo, hi, -by, api.OK, noughts...)
					holds(t, "taking away", c, list)
				}
			}
		}
	}
}

func TestTakingAwayInAnotherOrder(t *testing.T) { // P11.3
	c := spread.New(50)
	type part struct{ lo, hi, by int }
	var parts []part
	r := dice(11)
	for range 200 {
		lo := r.below(51)
		p := part{lo, lo + r.below(51-lo), 1 + r.below(9)}
		adds(t, "adding", c, p.lo, p.hi, p.by, api.OK)
		parts = append(parts, p)
	}
	for len(parts) > 0 {
		k := r.below(len(parts))
		p := parts[k]
		parts = slices.Delete(parts, k, k+1)
		if _, err := c.Add(p.lo, p.hi, -p.by); err != api.OK {
			t.Fatalf("taking away: %v", err)
		}
	}
	holds(t, "all is taken away", c, row(50, 0))
}

// dice tells numbers that look like any.
type dice uint64

func (d *dice) below(n int) int {
	*d = *d*6364136223846793005 + 1442695040888963407
	return int(uint64(*d>>33) % uint64(n))
}

// added is what Add makes of a list, and which items it tells; false: it may not be.
func added(list []int, lo, hi, by int) ([]int, []int, bool) {
	if lo < 0 || hi > len(list) || lo > hi {
		return nil, nil, false
	}
	out := slices.Clone(list)
	var gone []int
	for i := lo; i < hi; i++ {
		if out[i] += by; out[i] < 0 || out[i] > most {
			return nil, nil, false
		}
		if out[i] == 0 && list[i] != 0 {
			gone = append(gone, i)
		}
	}
	return out, gone, true
}

func TestAgainstAList(t *testing.T) { // P11.1, P11.2, P11.3
	for _, n := range []int{0, 1, 2, 7, 40, 300} {
		r := dice(n + 1)
		list := row(n, 0)
		c := spread.New(n)
		old, oldList := c, list
		for range 3000 {
			switch k := r.below(100); {
			case k == 0:
				more := min(len(list)+r.below(4), maxItems)
				grows(t, "Grow", c, more, api.OK)
				list = append(slices.Clone(list), row(more-len(list), 0)...)
			case k == 1:
				old, oldList = c, list
				c = c.Copy()
			default:
				lo := r.below(len(list)+3) - 1
				hi := lo + r.below(len(list)-min(lo, len(list))+2)
				by := r.below(7) - 3
				if k == 2 {
					by *= most / 3
				}
				if out, gone, ok := added(list, lo, hi, by); ok {
					adds(t, "Add", c, lo, hi, by, api.OK, gone...)
					list = out
				} else {
					adds(t, "Add", c, lo, hi, by, api.ErrInval)
				}
			}
			holds(t, "a long run", c, list)
		}
		if old != c {
			holds(t, "what was copied", old, oldList)
		}
	}
}

func TestCountsThatNoCallMade(t *testing.T) { // R5, and R2: ErrMade is the first error
	var none *spread.Counts
	for name, c := range map[string]*spread.Counts{
		"nil": nil, "a zero value": {}, "what New answered": spread.New(-1), "a copy of nil": none.Copy(), "a copy of a zero value": (&spread.Counts{}).Copy(),
	} {
		for range 2 {
			holds(t, name, c, nil)
			for _, i := range append(noItem(0), 0, 1) {
				adds(t, name, c, i, i, 0, api.ErrMade)
				adds(t, name, c, 0, i, i, api.ErrMade)
				adds(t, name, c, i, 0, 1, api.ErrMade)
				adds(t, name, c, 0, 0, i, api.ErrMade)
				grows(t, name, c, i, api.ErrMade)
			}
			grows(t, name, c, maxItems, api.ErrMade)
			if c.Copy() != nil {
				t.Errorf("%s: Copy: not nil", name)
			}
		}
		holds(t, name, c, nil)
	}
}
