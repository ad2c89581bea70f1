package ring_test

import (
	"iter"
	"math"
	"slices"
	"strconv"
	"testing"

	"pantry/api"
	"pantry/ring"
)

// kind makes items: another one for each number. Its item of 0 is the zero value, which is an item like any other.
type kind[T comparable] func(n int) T

func number(n int) int { return -n }

func text(n int) string {
	if n == 0 {
		return ""
	}
	return "item " + strconv.Itoa(n)
}

// list has the items of these numbers.
func (k kind[T]) list(ns ...int) []T {
	var items []T
	for _, n := range ns {
		items = append(items, k(n))
	}
	return items
}

// rows are new rows that have the items of these numbers.
func (k kind[T]) rows(t *testing.T, rows ...[]int) *ring.Rows[T] {
	t.Helper()
	x := ring.New[T](len(rows))
	for row, ns := range rows {
		for _, n := range ns {
			if !x.Push(row, k(n)) {
				t.Fatalf("Push(%d, %v): false", row, k(n))
			}
		}
	}
	k.holds(t, "new rows", x, rows...)
	return x
}

// holds asks, by each call that tells something, whether the rows have the items of these numbers.
func (k kind[T]) holds(t *testing.T, what string, x *ring.Rows[T], rows ...[]int) {
	t.Helper()
	if x.Rows() != len(rows) {
		t.Fatalf("%s: Rows: %d, want %d", what, x.Rows(), len(rows))
	}
	for row, ns := range rows {
		want := k.list(ns...)
		if got := slices.Collect(x.All(row)); !slices.Equal(got, want) {
			t.Fatalf("%s: row %d: %v, want %v", what, row, got, want)
		}
		if x.Len(row) != len(ns) {
			t.Fatalf("%s: Len(%d): %d, want %d", what, row, x.Len(row), len(ns))
		}
		var first T
		if len(ns) > 0 {
			first = want[0]
		}
		if got, ok := x.First(row); got != first || ok != (len(ns) > 0) {
			t.Fatalf("%s: First(%d): %v, %v", what, row, got, ok)
		}
		for _, item := range want {
			if got, ok := x.Where(item); got != row || !ok {
				t.Fatalf("%s: Where(%v): %d, %v, want %d, true", what, item, got, ok, row)
			}
		}
	}
}

// nowhere asks whether the items of these numbers stand in no row.
func (k kind[T]) nowhere(t *testing.T, what string, x *ring.Rows[T], ns ...int) {
	t.Helper()
	for _, n := range ns {
		if row, ok := x.Where(k(n)); row != 0 || ok {
			t.Fatalf("%s: Where(%v): %d, %v, want 0, false", what, k(n), row, ok)
		}
	}
}

// wrong has numbers of rows that are not there, where past is the first one past the end.
func wrong(past int) []int {
	return []int{-1, -2, -64, math.MinInt, past, past + 1, past + 64, 1 << 32, math.MaxInt}
}

// count has the numbers from lo up to below hi.
func count(lo, hi int) []int {
	var ns []int
	for n := lo; n < hi; n++ {
		ns = append(ns, n)
	}
	return ns
}

// is asks for one answer of a call that tells true or false.
func is(t *testing.T, what string, got, want bool) {
	t.Helper()
	if got != want {
		t.Errorf("%s: %v, want %v", what, got, want)
	}
}

// shifts asks Shift for an item.
func (k kind[T]) shifts(t *testing.T, x *ring.Rows[T], row, n int) {
	t.Helper()
	if got, ok := x.Shift(row); got != k(n) || !ok {
		t.Errorf("Shift(%d): %v, %v, want %v, true", row, got, ok, k(n))
	}
}

func TestNew(t *testing.T) { // P2.1
	checkNew[int](t, number)
	checkNew[string](t, text)
}

func checkNew[T comparable](t *testing.T, k kind[T]) {
	for _, n := range []int{1, 2, 63, 64} {
		x := ring.New[T](n)
		if x == nil {
			t.Fatalf("New(%d): nil", n)
		}
		k.holds(t, "New", x, make([][]int, n)...)
		k.nowhere(t, "New", x, 0, 1)
		is(t, "Push to the last row", x.Push(n-1, k(1)), true)
		if row, ok := x.Where(k(1)); row != n-1 || !ok {
			t.Errorf("Where in the last of %d rows: %d, %v", n, row, ok)
		}
	}
	for _, n := range []int{0, 65, -1, 66, 128, math.MinInt, math.MaxInt, 1<<32 + 1, 1 << 60} {
		if x := ring.New[T](n); x != nil {
			t.Errorf("New(%d): %d rows, want nil", n, x.Rows())
		}
	}
}

func TestNewIsApart(t *testing.T) { // P2.1
	k := kind[int](number)
	a, b := k.rows(t, count(0, 3)), k.rows(t, nil)
	b.Push(0, k(1))
	b.Remove(k(2))
	k.holds(t, "the first rows", a, count(0, 3))
	k.holds(t, "the second rows", b, []int{1})
}

func TestPush(t *testing.T) { // P2.1
	checkPush[int](t, number)
	checkPush[string](t, text)
}

func checkPush[T comparable](t *testing.T, k kind[T]) {
	x := k.rows(t, []int{0, 1, 2}, []int{3}, nil)
	is(t, "Push of a new one", x.Push(0, k(4)), true)
	k.holds(t, "Push of a new one", x, []int{0, 1, 2, 4}, []int{3}, nil)
	is(t, "Push of the first one", x.Push(0, k(0)), true)
	k.holds(t, "Push of the first one", x, []int{1, 2, 4, 0}, []int{3}, nil)
	is(t, "Push of one between", x.Push(0, k(4)), true)
	k.holds(t, "Push of one between", x, []int{1, 2, 0, 4}, []int{3}, nil)
	is(t, "Push of the last one", x.Push(0, k(4)), true)
	k.holds(t, "Push of the last one", x, []int{1, 2, 0, 4}, []int{3}, nil)
	is(t, "Push to another row", x.Push(1, k(2)), true)
	k.holds(t, "Push to another row", x, []int{1, 0, 4}, []int{3, 2}, nil)
	is(t, "Push to an empty row", x.Push(2, k(3)), true)
	k.holds(t, "Push to an empty row", x, []int{1, 0, 4}, []int{2}, []int{3})
	is(t, "Push of the only one", x.Push(2, k(3)), true)
	k.holds(t, "Push of the only one", x, []int{1, 0, 4}, []int{2}, []int{3})
	for _, row := range wrong(3) {
		is(t, "Push of a new one to no row", x.Push(row, k(5)), false)
		is(t, "Push of one that stands to no row", x.Push(row, k(0)), false)
	}
	k.holds(t, "Push to no row", x, []int{1, 0, 4}, []int{2}, []int{3})
	k.nowhere(t, "Push to no row", x, 5)
}

func TestPushOfTheChapter(t *testing.T) { // P2.1, the example
	x := ring.New[string](2)
	is(t, "Push(0, a)", x.Push(0, "a"), true)
	is(t, "Push(0, b)", x.Push(0, "b"), true)
	is(t, "Push(1, a)", x.Push(1, "a"), true)
	if b, a := slices.Collect(x.All(0)), slices.Collect(x.All(1)); !slices.Equal(b, []string{"b"}) || !slices.Equal(a, []string{"a"}) {
		t.Errorf("rows %v, %v, want [b], [a]", b, a)
	}
}

func TestFront(t *testing.T) { // P2.1
	checkFront[int](t, number)
	checkFront[string](t, text)
}

func checkFront[T comparable](t *testing.T, k kind[T]) {
	x := k.rows(t, []int{0, 1, 2}, []int{3}, nil)
	is(t, "Front of a new one", x.Front(0, k(4)), true)
	k.holds(t, "Front of a new one", x, []int{4, 0, 1, 2}, []int{3}, nil)
	is(t, "Front of the last one", x.Front(0, k(2)), true)
	k.holds(t, "Front of the last one", x, []int{2, 4, 0, 1}, []int{3}, nil)
	is(t, "Front of one between", x.Front(0, k(0)), true)
	k.holds(t, "Front of one between", x, []int{0, 2, 4, 1}, []int{3}, nil)
	is(t, "Front of the first one", x.Front(0, k(0)), true)
	k.holds(t, "Front of the first one", x, []int{0, 2, 4, 1}, []int{3}, nil)
	is(t, "Front to another row", x.Front(1, k(2)), true)
	k.holds(t, "Front to another row", x, []int{0, 4, 1}, []int{2, 3}, nil)
	is(t, "Front to an empty row", x.Front(2, k(3)), true)
	k.holds(t, "Front to an empty row", x, []int{0, 4, 1}, []int{2}, []int{3})
	is(t, "Front of the only one", x.Front(2, k(3)), true)
	k.holds(t, "Front of the only one", x, []int{0, 4, 1}, []int{2}, []int{3})
	for _, row := range wrong(3) {
		is(t, "Front of a new one to no row", x.Front(row, k(5)), false)
		is(t, "Front of one that stands to no row", x.Front(row, k(1)), false)
	}
	k.holds(t, "Front to no row", x, []int{0, 4, 1}, []int{2}, []int{3})
	k.nowhere(t, "Front to no row", x, 5)
}

func TestMaxItemsInOneRow(t *testing.T) { // P2.1
	checkMaxItems[int](t, number, 1)
	checkMaxItems[string](t, text, 1)
}

func TestMaxItemsInAllRows(t *testing.T) { // P2.1
	checkMaxItems[int](t, number, 2)
	checkMaxItems[string](t, text, 64)
}

func checkMaxItems[T comparable](t *testing.T, k kind[T], rows int) {
	all := make([][]int, rows)
	for n := range api.MaxItems {
		all[n%rows] = append(all[n%rows], n)
	}
	x := k.rows(t, all...)
	for row := range rows {
		is(t, "Push of one more", x.Push(row, k(api.MaxItems)), false)
		is(t, "Front of one more", x.Front(row, k(api.MaxItems)), false)
	}
	k.holds(t, "one more", x, all...)
	k.nowhere(t, "one more", x, api.MaxItems)
	first, to := k(0), rows-1
	is(t, "Push of one that stands", x.Push(to, first), true)
	all[0] = all[0][1:]
	all[to] = append(all[to], 0)
	k.holds(t, "Push of one that stands", x, all...)
	is(t, "Front of one that stands", x.Front(0, first), true)
	all[to] = all[to][:len(all[to])-1]
	all[0] = append([]int{0}, all[0]...)
	k.holds(t, "Front of one that stands", x, all...)
	is(t, "Turn of a full row", x.Turn(0), true)
	all[0] = append(all[0][1:], 0)
	is(t, "Push behind a move", x.Push(0, k(api.MaxItems)), false)
	k.shifts(t, x, 0, all[0][0])
	is(t, "Push behind Shift", x.Push(0, k(api.MaxItems)), true)
	all[0] = append(all[0][1:], api.MaxItems)
	is(t, "Push of two behind Shift", x.Push(0, k(api.MaxItems+1)), false)
	is(t, "Remove", x.Remove(k(0)), true)
	is(t, "Front behind Remove", x.Front(0, k(0)), true)
	is(t, "Front of two behind Remove", x.Front(0, k(api.MaxItems+1)), false)
	all[0] = slices.DeleteFunc(all[0], func(n int) bool { return n == 0 })
	all[0] = append([]int{0}, all[0]...)
	k.holds(t, "items that left and came", x, all...)
}

func TestShift(t *testing.T) { // P2.1
	checkShift[int](t, number)
	checkShift[string](t, text)
}

func checkShift[T comparable](t *testing.T, k kind[T]) {
	x := k.rows(t, []int{1, 0, 2}, []int{3}, nil)
	k.shifts(t, x, 0, 1)
	k.holds(t, "Shift", x, []int{0, 2}, []int{3}, nil)
	k.nowhere(t, "Shift", x, 1)
	k.shifts(t, x, 0, 0)
	k.shifts(t, x, 1, 3)
	k.shifts(t, x, 0, 2)
	k.holds(t, "Shift of all", x, nil, nil, nil)
	k.nowhere(t, "Shift of all", x, 0, 1, 2, 3)
	var zero T
	for _, row := range append(wrong(3), 0, 1, 2) {
		if got, ok := x.Shift(row); got != zero || ok {
			t.Errorf("Shift(%d) of none: %v, %v", row, got, ok)
		}
	}
	is(t, "Push behind Shift", x.Push(0, k(1)), true)
	k.holds(t, "Push behind Shift", x, []int{1}, nil, nil)
	x = k.rows(t, []int{1}, []int{2})
	for _, row := range wrong(2) {
		if got, ok := x.Shift(row); got != zero || ok {
			t.Errorf("Shift(%d) of no row: %v, %v", row, got, ok)
		}
	}
	k.holds(t, "Shift of no row", x, []int{1}, []int{2})
}

func TestFirst(t *testing.T) { // P2.1
	checkFirst[int](t, number)
	checkFirst[string](t, text)
}

func checkFirst[T comparable](t *testing.T, k kind[T]) {
	x := k.rows(t, []int{2, 1}, []int{3}, nil)
	for row, n := range []int{2, 3} {
		for range 2 {
			if got, ok := x.First(row); got != k(n) || !ok {
				t.Errorf("First(%d): %v, %v, want %v, true", row, got, ok, k(n))
			}
		}
	}
	var zero T
	for _, row := range append(wrong(3), 2) {
		if got, ok := x.First(row); got != zero || ok {
			t.Errorf("First(%d) of none: %v, %v", row, got, ok)
		}
	}
	k.holds(t, "First", x, []int{2, 1}, []int{3}, nil)
}

func TestRemove(t *testing.T) { // P2.1
	checkRemove[int](t, number)
	checkRemove[string](t, text)
}

func checkRemove[T comparable](t *testing.T, k kind[T]) {
	x := k.rows(t, []int{0, 1, 2, 3, 4}, []int{5}, nil)
	is(t, "Remove of one between", x.Remove(k(2)), true)
	k.holds(t, "Remove of one between", x, []int{0, 1, 3, 4}, []int{5}, nil)
	is(t, "Remove of the first one", x.Remove(k(0)), true)
	k.holds(t, "Remove of the first one", x, []int{1, 3, 4}, []int{5}, nil)
	is(t, "Remove of the last one", x.Remove(k(4)), true)
	k.holds(t, "Remove of the last one", x, []int{1, 3}, []int{5}, nil)
	is(t, "Remove of the only one", x.Remove(k(5)), true)
	k.holds(t, "Remove of the only one", x, []int{1, 3}, nil, nil)
	k.nowhere(t, "Remove", x, 0, 2, 4, 5)
	for _, n := range []int{0, 2, 4, 5, 6} {
		is(t, "Remove of one that stands nowhere", x.Remove(k(n)), false)
	}
	k.holds(t, "Remove of one that stands nowhere", x, []int{1, 3}, nil, nil)
	is(t, "Push behind Remove", x.Push(0, k(0)), true)
	is(t, "Front behind Remove", x.Front(1, k(5)), true)
	k.holds(t, "items that came again", x, []int{1, 3, 0}, []int{5}, nil)
}

func TestWhereAndLen(t *testing.T) { // P2.2
	checkWhereAndLen[int](t, number)
	checkWhereAndLen[string](t, text)
}

func checkWhereAndLen[T comparable](t *testing.T, k kind[T]) {
	x := k.rows(t, nil, []int{0, 1}, []int{2})
	for _, at := range []struct{ n, row int }{{0, 1}, {1, 1}, {2, 2}} {
		if row, ok := x.Where(k(at.n)); row != at.row || !ok {
			t.Errorf("Where(%v): %d, %v, want %d, true", k(at.n), row, ok, at.row)
		}
	}
	k.nowhere(t, "items that never came", x, 3, 4)
	x.Push(0, k(1))
	if row, ok := x.Where(k(1)); row != 0 || !ok {
		t.Errorf("Where behind a move to row 0: %d, %v", row, ok)
	}
	for row, want := range []int{1, 1, 1} {
		if n := x.Len(row); n != want {
			t.Errorf("Len(%d): %d, want %d", row, n, want)
		}
	}
	for _, row := range wrong(3) {
		if n := x.Len(row); n != 0 {
			t.Errorf("Len(%d) of no row: %d", row, n)
		}
	}
}

func TestTurn(t *testing.T) { // P2.2
	checkTurn[int](t, number)
	checkTurn[string](t, text)
}

func checkTurn[T comparable](t *testing.T, k kind[T]) {
	x := k.rows(t, nil, []int{4}, []int{0, 1}, []int{5, 2, 3})
	is(t, "Turn of none", x.Turn(0), false)
	k.holds(t, "Turn of none", x, nil, []int{4}, []int{0, 1}, []int{5, 2, 3})
	is(t, "Turn of one", x.Turn(1), true)
	k.holds(t, "Turn of one", x, nil, []int{4}, []int{0, 1}, []int{5, 2, 3})
	is(t, "Turn of two", x.Turn(2), true)
	k.holds(t, "Turn of two", x, nil, []int{4}, []int{1, 0}, []int{5, 2, 3})
	is(t, "Turn of three", x.Turn(3), true)
	k.holds(t, "Turn of three", x, nil, []int{4}, []int{1, 0}, []int{2, 3, 5})
	x.Turn(3)
	x.Turn(3)
	k.holds(t, "Turn all the way round", x, nil, []int{4}, []int{1, 0}, []int{5, 2, 3})
	for _, row := range wrong(4) {
		is(t, "Turn of no row", x.Turn(row), false)
	}
	k.holds(t, "Turn of no row", x, nil, []int{4}, []int{1, 0}, []int{5, 2, 3})
}

func TestAll(t *testing.T) { // P2.2
	checkAll[int](t, number)
	checkAll[string](t, text)
}

// tells asks whether an iterator tells the items of these numbers.
func (k kind[T]) tells(t *testing.T, what string, all iter.Seq[T], ns ...int) {
	t.Helper()
	if all == nil {
		t.Fatalf("%s: All: nil", what)
	}
	if got, want := slices.Collect(all), k.list(ns...); !slices.Equal(got, want) {
		t.Errorf("%s: All: %v, want %v", what, got, want)
	}
}

func checkAll[T comparable](t *testing.T, k kind[T]) {
	x := k.rows(t, []int{3, 0, 2}, []int{1}, nil)
	k.tells(t, "three", x.All(0), 3, 0, 2)
	k.tells(t, "one", x.All(1), 1)
	k.tells(t, "none", x.All(2))
	for _, row := range wrong(3) {
		k.tells(t, "no row", x.All(row))
	}
	for stop := 1; stop <= 3; stop++ {
		all := x.All(0)
		var got []T
		for item := range all {
			got = append(got, item)
			if len(got) == stop {
				break
			}
		}
		if want := k.list(3, 0, 2)[:stop]; !slices.Equal(got, want) {
			t.Errorf("left behind %d: %v, want %v", stop, got, want)
		}
		k.tells(t, "gone over again", all, 3, 0, 2)
		k.tells(t, "gone over once more", all, 3, 0, 2)
	}
	k.holds(t, "behind All", x, []int{3, 0, 2}, []int{1}, nil)
}

func TestAllNested(t *testing.T) { // P2.2, R3
	k := kind[string](text)
	all := k.rows(t, count(0, 3)).All(0)
	var got []string
	for a := range all {
		for b := range all {
			got = append(got, a+b)
		}
	}
	want := []string{"", "item 1", "item 2", "item 1", "item 1item 1", "item 1item 2", "item 2", "item 2item 1", "item 2item 2"}
	if !slices.Equal(got, want) {
		t.Errorf("All in All: %q, want %q", got, want)
	}
}

func TestAllWhileRowsChange(t *testing.T) { // P2.2, R3
	checkAllWhileRowsChange[int](t, number)
	checkAllWhileRowsChange[string](t, text)
}

func checkAllWhileRowsChange[T comparable](t *testing.T, k kind[T]) {
	changes := []struct {
		what string
		do   func(x *ring.Rows[T], item T)
		left [][]int
	}{
		{"removed", func(x *ring.Rows[T], item T) { x.Remove(item) }, [][]int{nil, {5}}},
		{"shifted", func(x *ring.Rows[T], item T) { x.Shift(0) }, [][]int{nil, {5}}},
		{"moved to the end", func(x *ring.Rows[T], item T) { x.Push(0, item) }, [][]int{{0, 1, 2, 3}, {5}}},
		{"moved to the beginning", func(x *ring.Rows[T], item T) { x.Front(0, item) }, [][]int{{3, 2, 1, 0}, {5}}},
		{"moved to another row", func(x *ring.Rows[T], item T) { x.Push(1, item) }, [][]int{nil, {5, 0, 1, 2, 3}}},
		{"turned", func(x *ring.Rows[T], item T) { x.Turn(0) }, [][]int{{0, 1, 2, 3}, {5}}},
		{"the last one removed", func(x *ring.Rows[T], item T) { x.Remove(k(3)) }, [][]int{{0, 1, 2}, {5}}},
		{"one more pushed", func(x *ring.Rows[T], item T) { x.Push(0, k(6)) }, [][]int{{0, 1, 2, 3, 6}, {5}}},
	}
	for _, c := range changes {
		x := k.rows(t, []int{0, 1, 2, 3}, []int{5})
		all := x.All(0)
		var got []T
		for item := range all {
			got = append(got, item)
			c.do(x, item)
		}
		if want := k.list(0, 1, 2, 3); !slices.Equal(got, want) {
			t.Errorf("%s in between: All: %v, want %v", c.what, got, want)
		}
		k.holds(t, c.what, x, c.left...)
		k.tells(t, c.what+", gone over again", all, 0, 1, 2, 3)
	}
}

func TestAllIsAsItWasAskedFor(t *testing.T) { // P2.2, R3
	k := kind[int](number)
	x := k.rows(t, []int{0, 1, 2}, nil)
	full, empty := x.All(0), x.All(1)
	x.Shift(0)
	x.Push(1, k(9))
	k.tells(t, "asked for ahead of a change", full, 0, 1, 2)
	k.tells(t, "asked for ahead of the first item", empty)
	k.tells(t, "asked for behind a change", x.All(0), 1, 2)
}

func TestOrderOfPushes(t *testing.T) { // P2.3
	checkOrderOfPushes[int](t, number)
	checkOrderOfPushes[string](t, text)
}

func checkOrderOfPushes[T comparable](t *testing.T, k kind[T]) {
	x := ring.New[T](2)
	for n := range 100 {
		x.Push(n%2, k(n*37%100))
	}
	for n := range 100 {
		k.shifts(t, x, n%2, n*37%100)
	}
	for n := range 1000 { // a row that is never long
		x.Push(0, k(n))
		if n >= 3 {
			k.shifts(t, x, 0, n-3)
		}
	}
	k.holds(t, "pushed and shifted", x, count(997, 1000), nil)
}

// model is rows as plain lists, with nothing kept beside them.
type model [][]int

func (m model) where(n int) (int, int) {
	for row, ns := range m {
		if at := slices.Index(ns, n); at >= 0 {
			return row, at
		}
	}
	return -1, -1
}

func (m model) remove(n int) bool {
	row, at := m.where(n)
	if row >= 0 {
		m[row] = slices.Delete(m[row], at, at+1)
	}
	return row >= 0
}

func (m model) put(row, n int, front bool) bool {
	if row < 0 || row >= len(m) {
		return false
	}
	m.remove(n)
	if front {
		m[row] = slices.Insert(m[row], 0, n)
	} else {
		m[row] = append(m[row], n)
	}
	return true
}

// first is the first one of a row; below 0: there is none.
func (m model) first(row int) int {
	if row < 0 || row >= len(m) || len(m[row]) == 0 {
		return -1
	}
	return m[row][0]
}

func (m model) turn(row int) bool {
	n := m.first(row)
	return n >= 0 && m.put(row, n, false)
}

// step does one thing to both rows and a model, and tells what each answered; what it is hangs on r alone.
func step[T comparable](k kind[T], x *ring.Rows[T], m model, r uint32) (got, want bool) {
	row, n := int(r>>8%6)-1, int(r>>16%40)
	switch r % 8 {
	case 0, 1, 2:
		return x.Push(row, k(n)), m.put(row, n, false)
	case 3:
		return x.Front(row, k(n)), m.put(row, n, true)
	case 4:
		first := m.first(row)
		item, ok := x.Shift(row)
		if first < 0 {
			return ok, false
		}
		return ok && item == k(first), m.remove(first)
	case 5, 6:
		return x.Remove(k(n)), m.remove(n)
	}
	return x.Turn(row), m.turn(row)
}

func TestAgainstPlainLists(t *testing.T) { // P2.1, P2.2, P2.3
	checkAgainstPlainLists[int](t, number)
	checkAgainstPlainLists[string](t, text)
}

func checkAgainstPlainLists[T comparable](t *testing.T, k kind[T]) {
	x, m := ring.New[T](4), make(model, 4)
	r := uint32(7)
	for i := range 5000 {
		r = r*1664525 + 1013904223
		if got, want := step(k, x, m, r^r>>16); got != want {
			t.Fatalf("step %d: %v, want %v", i, got, want)
		}
		k.holds(t, "step "+strconv.Itoa(i), x, m...)
		for n := range 40 {
			if row, _ := m.where(n); row < 0 {
				k.nowhere(t, "step "+strconv.Itoa(i), x, n)
			}
		}
	}
}

func TestItemsAreOneByOne(t *testing.T) { // P2.3
	type pair struct{ a, b int }
	x := ring.New[pair](2)
	x.Push(0, pair{1, 2})
	x.Push(0, pair{2, 1})
	x.Push(1, pair{1, 2})
	if got := slices.Collect(x.All(0)); !slices.Equal(got, []pair{{2, 1}}) {
		t.Errorf("row 0: %v", got)
	}
	if row, ok := x.Where(pair{1, 2}); row != 1 || !ok {
		t.Errorf("Where(1, 2): %d, %v", row, ok)
	}
}

func TestItemsThatEqualNothing(t *testing.T) { // P2.1, P2.3, R1
	x, nan := ring.New[float64](2), math.NaN()
	for range 3 * api.MaxItems { // what left takes no room
		is(t, "Push of a NaN", x.Push(0, nan), true)
		if got, ok := x.Shift(0); got == got || !ok {
			t.Fatalf("Shift: %v, %v", got, ok)
		}
	}
	for range api.MaxItems - 1 {
		x.Push(0, nan)
	}
	is(t, "Push behind the NaNs", x.Push(0, 1), true)
	is(t, "Push of one more", x.Push(1, 2), false)
	is(t, "Push of one more NaN", x.Push(1, nan), false)
	is(t, "Remove of a NaN", x.Remove(nan), false)
	if row, ok := x.Where(nan); row != 0 || ok {
		t.Errorf("Where of a NaN: %d, %v", row, ok)
	}
	is(t, "Turn of a NaN", x.Turn(0), true)
	if x.Len(0) != api.MaxItems || x.Len(1) != 0 {
		t.Errorf("Len: %d, %d", x.Len(0), x.Len(1))
	}
}

func TestItemsThatCannotBeCompared(t *testing.T) { // R1
	x := ring.New[any](2)
	x.Push(0, 1)
	x.Push(0, "1")
	for _, item := range []any{[]int{1}, map[int]int{}, func() {}, [1]any{[]int{}}, struct{ a any }{[]int{}}} {
		is(t, "Push", x.Push(0, item), false)
		is(t, "Front", x.Front(1, item), false)
		is(t, "Push to no row", x.Push(2, item), false)
		is(t, "Remove", x.Remove(item), false)
		if row, ok := x.Where(item); row != 0 || ok {
			t.Errorf("Where(%T): %d, %v", item, row, ok)
		}
	}
	is(t, "Push of nil", x.Push(1, nil), true)
	is(t, "Push of what may be compared", x.Push(1, 1), true)
	if a, b := slices.Collect(x.All(0)), slices.Collect(x.All(1)); !slices.Equal(a, []any{"1"}) || !slices.Equal(b, []any{nil, 1}) {
		t.Errorf("rows %v, %v", a, b)
	}
}

func TestRowsThatNoCallMade(t *testing.T) { // R5
	checkRowsThatNoCallMade[int](t, number)
	checkRowsThatNoCallMade[string](t, text)
	is(t, "Push of what can't be compared to nil Rows", (*ring.Rows[any])(nil).Push(0, []int{}), false)
	is(t, "Push of what can't be compared to zero Rows", new(ring.Rows[any]).Push(0, []int{}), false)
}

func checkRowsThatNoCallMade[T comparable](t *testing.T, k kind[T]) {
	for name, x := range map[string]*ring.Rows[T]{"nil": nil, "zero": {}} {
		for _, row := range append(wrong(1), 0) {
			is(t, name+": Push", x.Push(row, k(1)), false)
			is(t, name+": Push of a zero value", x.Push(row, k(0)), false)
			is(t, name+": Front", x.Front(row, k(1)), false)
			is(t, name+": Turn", x.Turn(row), false)
			if got, ok := x.Shift(row); got != k(0) || ok {
				t.Errorf("%s: Shift(%d): %v, %v", name, row, got, ok)
			}
			if got, ok := x.First(row); got != k(0) || ok {
				t.Errorf("%s: First(%d): %v, %v", name, row, got, ok)
			}
			if n := x.Len(row); n != 0 {
				t.Errorf("%s: Len(%d): %d", name, row, n)
			}
			k.tells(t, name, x.All(row))
		}
		for n := range 2 {
			is(t, name+": Remove", x.Remove(k(n)), false)
			k.nowhere(t, name, x, n)
		}
		if x.Rows() != 0 {
			t.Errorf("%s: Rows: %d", name, x.Rows())
		}
	}
}
