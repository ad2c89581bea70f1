package flat_test

import (
	"maps"
	"math"
	"slices"
	"testing"

	"pantry/api"
	"pantry/flat"
	"pantry/vmap"
)

const (
	maxVPN   = 1 << 26
	maxPages = 4096
	maxProcs = 16
	maxFiles = 16
	maxLoans = 64

	r  = api.Read
	w  = api.Write
	rw = api.Read | api.Write
)

// far has numbers that are nowhere near any page, process, file, handle, byte or kind.
func far() []int {
	return []int{-2, -maxVPN, maxVPN + 2, 2 * maxVPN, 1 << 31, 1 << 32, 1<<32 + 1, -1 << 32, 1 - 1<<32, 1 << 62, -1 << 62, math.MinInt, math.MinInt + 1, math.MaxInt, math.MaxInt - 1}
}

// with is an operation that something was done to.
func with(o api.Op, change func(*api.Op)) api.Op {
	change(&o)
	return o
}

// Operations. Pages that are mapped are read and written, at addr.

func bare(proc, addr, pages int) api.Op {
	return api.Op{Kind: api.OpMap, Proc: proc, Addr: addr, Pages: pages, Prot: rw, Fixed: true}
}

func filed(proc, addr, pages, file, off int) api.Op {
	return with(bare(proc, addr, pages), func(o *api.Op) { o.File, o.Off = file, off })
}

func shared(proc, addr, pages, file, off int) api.Op {
	return with(filed(proc, addr, pages, file, off), func(o *api.Op) { o.Shared = true })
}

func region(proc, addr, pages int) api.Op { return shared(proc, addr, pages, 0, 0) }

func loose(o api.Op) api.Op { return with(o, func(o *api.Op) { o.Fixed = false }) }

func prots(o api.Op, prot int) api.Op { return with(o, func(o *api.Op) { o.Prot = prot }) }

func ranged(kind, proc, lo, pages int) api.Op {
	return api.Op{Kind: kind, Proc: proc, Addr: lo, Pages: pages}
}

func unmap(proc, lo, pages int) api.Op { return ranged(api.OpUnmap, proc, lo, pages) }

func protect(proc, lo, pages, prot int) api.Op {
	return prots(ranged(api.OpProtect, proc, lo, pages), prot)
}

func inherit(proc, lo, pages, how int) api.Op {
	return with(ranged(api.OpInherit, proc, lo, pages), func(o *api.Op) { o.How = how })
}

func advise(proc, lo, pages, how int) api.Op {
	return with(ranged(api.OpAdvise, proc, lo, pages), func(o *api.Op) { o.How = how })
}

func lock(proc, lo, pages int) api.Op   { return ranged(api.OpLock, proc, lo, pages) }
func unlock(proc, lo, pages int) api.Op { return ranged(api.OpUnlock, proc, lo, pages) }

func load(proc, page, at int) api.Op {
	return api.Op{Kind: api.OpLoad, Proc: proc, Addr: page, At: at}
}

func store(proc, page, at, value int) api.Op {
	return api.Op{Kind: api.OpStore, Proc: proc, Addr: page, At: at, Value: value}
}

func fork(proc int) api.Op          { return api.Op{Kind: api.OpFork, Proc: proc} }
func exit(proc int) api.Op          { return api.Op{Kind: api.OpExit, Proc: proc} }
func loan(proc, page int) api.Op    { return api.Op{Kind: api.OpLoan, Proc: proc, Addr: page} }
func peek(handle, at int) api.Op    { return api.Op{Kind: api.OpPeek, Handle: handle, At: at} }
func giveBack(handle int) api.Op    { return api.Op{Kind: api.OpReturn, Handle: handle} }
func get(file, page, at int) api.Op { return api.Op{Kind: api.OpGet, File: file, Off: page, At: at} }

func put(file, page, at, value int) api.Op {
	return api.Op{Kind: api.OpPut, File: file, Off: page, At: at, Value: value}
}

func size(file, pages int) api.Op { return api.Op{Kind: api.OpSize, File: file, Pages: pages} }
func sync(file int) api.Op        { return api.Op{Kind: api.OpSync, File: file} }
func tick(n int) api.Op           { return api.Op{Kind: api.OpTick, Pages: n} }

func send(proc, lo, pages, to int) api.Op {
	return api.Op{Kind: api.OpSend, Proc: proc, Addr: lo, Pages: pages, To: to}
}

// pair is a world, and a model of what it is to be.
type pair struct {
	w *flat.World
	m *model
}

// made is a world of files of these sizes, in which some operations were done.
func made(t *testing.T, sizes []int, ops ...api.Op) pair {
	t.Helper()
	w, err := flat.New(sizes)
	if w == nil || err != api.OK {
		t.Fatalf("New(%v): %v, %v", sizes, w, err)
	}
	x := pair{w, newModel(sizes)}
	for _, o := range ops {
		if a := x.do(t, "behind the making", o); a.Err != api.OK {
			t.Fatalf("behind the making: %v: %v", o, a)
		}
	}
	x.has(t, "behind the making")
	return x
}

// do does an operation, asks for the model's answer, and whether the world is then as the model.
func (x pair) do(t *testing.T, what string, o api.Op) api.Answer {
	t.Helper()
	got, want := x.w.Do(o), x.m.do(o)
	if got != want {
		t.Fatalf("%s: %+v: %v, want %v", what, o, got, want)
	}
	x.has(t, what)
	return got
}

// tells does an operation, and asks for the number that is answered.
func (x pair) tells(t *testing.T, what string, o api.Op, n int) {
	t.Helper()
	if a := x.do(t, what, o); a != (api.Answer{N: n}) {
		t.Fatalf("%s: %+v: %v, want %d", what, o, a, n)
	}
}

// does does operations that tell nothing.
func (x pair) does(t *testing.T, what string, ops ...api.Op) {
	t.Helper()
	for _, o := range ops {
		x.tells(t, what, o, 0)
	}
}

// refuses does operations that have an error, and asks whether they have changed nothing.
func (x pair) refuses(t *testing.T, what string, err api.Errno, ops ...api.Op) {
	t.Helper()
	for _, o := range ops {
		if a := x.do(t, what, o); a != (api.Answer{Err: err}) {
			t.Fatalf("%s: %+v: %v, want %v", what, o, a, err)
		}
	}
}

// some has the pages of a process that are looked at.
func some(pages map[int]leaf) []int {
	list := []int{-1, 0, maxVPN - 1, maxVPN}
	all := slices.Sorted(maps.Keys(pages))
	for k, page := range all {
		if k < 20 || k >= len(all)-20 {
			list = append(list, page-1, page, page+1)
		}
	}
	slices.Sort(list)
	return slices.Compact(list)
}

// has asks whether a world is as its model.
func (x pair) has(t *testing.T, what string) {
	t.Helper()
	isList(t, what+": Procs", x.w.Procs(), slices.Sorted(maps.Keys(x.m.procs)))
	isList(t, what+": Handles", x.w.Handles(), slices.Sorted(maps.Keys(x.m.loans)))
	for proc, pages := range x.m.procs {
		isList(t, what+": Entries", x.w.Entries(proc), entriesOf(pages))
		for _, page := range some(pages) {
			for _, at := range []int{0, 5, 4095} {
				want, err := x.m.byte(proc, page, at)
				x.byte(t, what, proc, page, at, want, err)
			}
		}
	}
	for file := range x.m.sizes {
		for _, page := range []int{-1, 0, 1, 2, 3, 4, 5, 6, 4095, 4096} {
			for _, at := range []int{0, 5, 4095} {
				want, err := x.m.fileByte(file+1, page, at)
				x.fileByte(t, what, file+1, page, at, want, err)
			}
		}
	}
	for handle, b := range x.m.loans {
		for _, at := range []int{0, 5, 4095} {
			if a := x.w.Do(peek(handle, at)); a != (api.Answer{N: b[at]}) {
				t.Fatalf("%s: handle %d at %d: %v, want %d", what, handle, at, a, b[at])
			}
		}
	}
}

// byte asks Byte for its answer.
func (x pair) byte(t *testing.T, what string, proc, page, at, want int, err api.Errno) {
	t.Helper()
	if n, is := x.w.Byte(proc, page, at); n != want || is != err {
		t.Fatalf("%s: Byte(%d, %d, %d): %d, %v, want %d, %v", what, proc, page, at, n, is, want, err)
	}
}

// fileByte asks FileByte for its answer.
func (x pair) fileByte(t *testing.T, what string, file, page, at, want int, err api.Errno) {
	t.Helper()
	if n, is := x.w.FileByte(file, page, at); n != want || is != err {
		t.Fatalf("%s: FileByte(%d, %d, %d): %d, %v, want %d, %v", what, file, page, at, n, is, want, err)
	}
}

// isList asks whether a list is as it is to be.
func isList[T comparable](t *testing.T, what string, got, want []T) {
	t.Helper()
	if !slices.Equal(got, want) {
		t.Fatalf("%s:\n%v, want\n%v", what, got, want)
	}
}

// area is an entry as OpMap makes it.
func area(lo, hi int, change ...func(*api.Entry)) api.Entry {
	e := api.Entry{Start: lo, End: hi, Prot: rw, Max: 7}
	for _, c := range change {
		c(&e)
	}
	return e
}

func TestNew(t *testing.T) { // P17.1
	most := slices.Repeat([]int{3}, maxFiles)
	for _, sizes := range [][]int{nil, {}, {0}, {1}, {maxPages}, {0, maxPages, 2}, most, slices.Repeat([]int{maxPages}, maxFiles)} {
		x := made(t, sizes)
		isList(t, "Procs", x.w.Procs(), []int{1})
		isList(t, "Entries", x.w.Entries(1), nil)
		isList(t, "Handles", x.w.Handles(), nil)
		x.byte(t, "a new world", 1, 0, 0, 0, api.ErrFault)
		for k, pages := range sizes {
			for _, page := range []int{0, 1, pages - 1} {
				if page >= 0 && page < pages {
					x.fileByte(t, "a new file", k+1, page, 4095, 0, api.OK)
				}
			}
			x.fileByte(t, "past a file", k+1, pages, 0, 0, api.ErrFault)
		}
		x.fileByte(t, "past the last file", len(sizes)+1, 0, 0, 0, api.ErrNone)
	}
}

func TestNewOfWhatMayNotBe(t *testing.T) { // P17.1
	lists := [][]int{slices.Repeat([]int{3}, maxFiles+1), make([]int, 1000)}
	for _, n := range append(far(), -1, maxPages+1) {
		lists = append(lists, []int{n}, []int{n, 1}, []int{1, n}, append(slices.Repeat([]int{2}, maxFiles-1), n))
	}
	for _, sizes := range lists {
		if w, err := flat.New(sizes); w != nil || err != api.ErrInval {
			t.Fatalf("New(%v): %v, %v", sizes, w, err)
		}
	}
}

func TestNewKeepsNoSizes(t *testing.T) { // R3
	room := []int{2, 3, 7, 7}
	x := made(t, room[:2])
	if !slices.Equal(room, []int{2, 3, 7, 7}) {
		t.Fatalf("sizes: %v", room)
	}
	room[0], room[1] = 0, 9
	x.has(t, "sizes that change")
	x.does(t, "sizes", size(1, 3), size(2, 1))
	if !slices.Equal(room, []int{0, 9, 7, 7}) {
		t.Fatalf("sizes: %v", room)
	}
}

func TestChaptersExample(t *testing.T) { // P17.3
	x := made(t, nil)
	x.tells(t, "OpMap", loose(bare(1, -1, 2)), 0)
	x.does(t, "OpStore", store(1, 0, 5, 7))
	x.tells(t, "OpFork", fork(1), 2)
	x.does(t, "OpStore of process 2", store(2, 0, 5, 8))
	x.tells(t, "OpLoad of 1", load(1, 0, 5), 7)
	x.tells(t, "OpLoad of 2", load(2, 0, 5), 8)
}

func TestEntriesOfNone(t *testing.T) { // P17.1
	x := made(t, nil, bare(1, 4, 2))
	for _, proc := range append(far(), -1, 0, 2, 17) {
		isList(t, "Entries of none", x.w.Entries(proc), nil)
	}
	isList(t, "Entries", x.w.Entries(1), []api.Entry{area(4, 6)})
}

func TestByte(t *testing.T) { // P17.2
	x := made(t, []int{2}, bare(1, 3, 1), filed(1, 10, 4, 1, 0), shared(1, 20, 4, 1, 1), store(1, 3, 0, 7), store(1, 3, 4095, 255), put(1, 1, 5, 9))
	for _, proc := range append(far(), -1, 0, 2, 16, 17) {
		for _, at := range append(far(), -1, 0, 4096) {
			x.byte(t, "a process that is none", proc, 3, at, 0, api.ErrNone)
			x.byte(t, "a process that is none", proc, 0, at, 0, api.ErrNone)
		}
	}
	for _, at := range append(far(), -1, 4096) {
		for _, page := range append(far(), -1, 0, 3, 4, 12, 21) {
			x.byte(t, "no such byte", 1, page, at, 0, api.ErrInval)
		}
	}
	for _, page := range append(far(), -1, 0, 2, 4, 9, 14, 19, 24, maxVPN-1, maxVPN) {
		x.byte(t, "no entry", 1, page, 0, 0, api.ErrFault)
	}
	x.byte(t, "the first byte", 1, 3, 0, 7, api.OK)
	x.byte(t, "a byte in between", 1, 3, 1, 0, api.OK)
	x.byte(t, "the last byte", 1, 3, 4095, 255, api.OK)
	for k, err := range []api.Errno{api.OK, api.OK, api.ErrFault, api.ErrFault} {
		x.byte(t, "a private page of a file", 1, 10+k, 5, 9*(k%2)*(1-k/2), err)
	}
	for k, err := range []api.Errno{api.OK, api.ErrFault, api.ErrFault, api.ErrFault} {
		x.byte(t, "a shared page of a file", 1, 20+k, 5, 9*(1-min(k, 1)), err)
	}
	for prot := range 8 {
		x.does(t, "OpProtect", protect(1, 3, 1, prot), protect(1, 11, 1, prot), protect(1, 20, 1, prot))
		x.byte(t, "whatever Prot is", 1, 3, 4095, 255, api.OK)
		x.byte(t, "whatever Prot is", 1, 11, 5, 9, api.OK)
		x.byte(t, "whatever Prot is", 1, 20, 5, 9, api.OK)
	}
}

func TestFileByte(t *testing.T) { // P17.2
	x := made(t, []int{2, 0, 3}, region(1, 0, 2), store(1, 1, 5, 8), put(1, 1, 0, 1), put(3, 2, 4095, 255), put(3, 0, 5, 7))
	for _, file := range append(far(), -1, 0, 4, 16, 17, 1000, 1001, 1002) {
		for _, at := range append(far(), -1, 0, 5, 4096) {
			x.fileByte(t, "no such file", file, 1, at, 0, api.ErrNone)
			x.fileByte(t, "no such file", file, -1, at, 0, api.ErrNone)
		}
	}
	for _, at := range append(far(), -1, 4096) {
		for _, page := range append(far(), -1, 0, 1, 2) {
			x.fileByte(t, "no such byte", 1, page, at, 0, api.ErrInval)
		}
	}
	for _, page := range append(far(), -1, 2, 3, maxPages) {
		x.fileByte(t, "gone", 1, page, 0, 0, api.ErrFault)
	}
	x.fileByte(t, "of a file of no pages", 2, 0, 0, 0, api.ErrFault)
	x.fileByte(t, "one below the size", 1, 1, 0, 1, api.OK)
	x.fileByte(t, "the first page", 3, 0, 5, 7, api.OK)
	x.fileByte(t, "noughts", 3, 1, 5, 0, api.OK)
	x.fileByte(t, "the last file", 3, 2, 4095, 255, api.OK)
	x.fileByte(t, "past the last file's size", 3, 3, 0, 0, api.ErrFault)
}

// named has an operation of each kind that names a process, which may be done by process 1 of a world made by forNamed.
func named() []api.Op {
	return []api.Op{
		bare(1, 40, 2), unmap(1, 0, 1), protect(1, 0, 1, r), inherit(1, 0, 1, api.None), advise(1, 0, 1, api.DontNeed), lock(1, 0, 1), unlock(1, 0, 1),
		load(1, 0, 5), store(1, 0, 5, 9), fork(1), exit(1), loan(1, 0), send(1, 0, 2, 2),
	}
}

// unnamed has an operation of each kind that names no process.
func unnamed() []api.Op {
	return []api.Op{peek(1, 5), giveBack(1), put(1, 1, 5, 9), get(1, 1, 5), size(1, 1), sync(1), tick(4)}
}

func forNamed(t *testing.T) pair {
	t.Helper()
	return made(t, []int{2}, bare(1, 0, 4), store(1, 0, 5, 7), fork(1), put(1, 1, 5, 6), loan(1, 0))
}

func TestKindsThatAreNone(t *testing.T) { // P17.3
	x := forNamed(t)
	for _, kind := range append(far(), -1, 0, 21, 22, 1000) {
		for _, proc := range []int{1, 0, -1, 17, math.MaxInt} {
			for _, o := range append(append(named(), unnamed()...), api.Op{}) {
				o.Kind, o.Proc = kind, proc
				x.refuses(t, "no such kind", api.ErrInval, o)
			}
		}
	}
}

func TestProcThatIsNone(t *testing.T) { // P17.3
	x := forNamed(t)
	for _, proc := range append(far(), -1, 0, 3, 16, 17) {
		for _, o := range named() {
			o.Proc = proc
			x.refuses(t, "no such process", api.ErrNone, o)
			x.refuses(t, "and nothing else that is right", api.ErrNone, api.Op{Kind: o.Kind, Proc: proc, Addr: -7, Pages: -7, Prot: -7, File: -7, Off: -7, How: -7, At: -7, Value: -7, Handle: -7, To: -7})
		}
		for _, o := range unnamed() {
			x := forNamed(t)
			o.Proc = proc
			if a := x.do(t, "a kind that names no process", o); a.Err != api.OK {
				t.Fatalf("%+v: %v", o, a)
			}
		}
	}
}

// others has what an operation of a kind is when all that the kind does not name is something else.
func others(o api.Op) api.Op {
	all := api.Op{Proc: -9, Addr: -9, Pages: -9, Prot: -9, Shared: true, File: -9, Off: -9, Fixed: true, How: -9, At: -9, Value: -9, Handle: -9, To: -9}
	all.Kind = o.Kind
	if o.Kind <= api.OpLoan || o.Kind == api.OpSend {
		all.Proc = o.Proc
	}
	switch o.Kind {
	case api.OpMap:
		all.Addr, all.Pages, all.Prot, all.Shared, all.File, all.Off, all.Fixed = o.Addr, o.Pages, o.Prot, o.Shared, o.File, o.Off, o.Fixed
	case api.OpUnmap, api.OpLock, api.OpUnlock:
		all.Addr, all.Pages = o.Addr, o.Pages
	case api.OpProtect:
		all.Addr, all.Pages, all.Prot = o.Addr, o.Pages, o.Prot
	case api.OpInherit, api.OpAdvise:
		all.Addr, all.Pages, all.How = o.Addr, o.Pages, o.How
	case api.OpLoad:
		all.Addr, all.At = o.Addr, o.At
	case api.OpStore:
		all.Addr, all.At, all.Value = o.Addr, o.At, o.Value
	case api.OpLoan:
		all.Addr = o.Addr
	case api.OpPeek:
		all.Handle, all.At = o.Handle, o.At
	case api.OpReturn:
		all.Handle = o.Handle
	case api.OpPut:
		all.File, all.Off, all.At, all.Value = o.File, o.Off, o.At, o.Value
	case api.OpGet:
		all.File, all.Off, all.At = o.File, o.Off, o.At
	case api.OpSize:
		all.File, all.Pages = o.File, o.Pages
	case api.OpSync:
		all.File = o.File
	case api.OpSend:
		all.Addr, all.Pages, all.To = o.Addr, o.Pages, o.To
	}
	return all
}

func TestWhatAKindDoesNotName(t *testing.T) { // P17.3, R7
	for _, o := range append(named(), unnamed()...) {
		x, y := forNamed(t), forNamed(t)
		want := x.do(t, "as it is", o)
		if want.Err != api.OK {
			t.Fatalf("%+v: %v", o, want)
		}
		if got := y.w.Do(others(o)); got != want {
			t.Fatalf("%+v: %v, want %v", others(o), got, want)
		}
		pair{y.w, x.m}.has(t, "with other fields")
	}
}

func TestMap(t *testing.T) { // P17.3
	x := made(t, []int{4})
	x.tells(t, "not fixed, from below 0 on", loose(bare(1, -1, 2)), 0)
	x.tells(t, "not fixed, over what there is", loose(bare(1, 1, 3)), 2)
	x.tells(t, "fixed", filed(1, 9, 2, 1, 1), 9)
	x.tells(t, "not fixed, further on", loose(filed(1, 20, 2, 1, 0)), 20)
	x.tells(t, "shared", shared(1, 30, 4, 1, 0), 30)
	x.tells(t, "not fixed, where there is no space: from 0 on", loose(bare(1, maxVPN-1, 2)), 5)
	x.tells(t, "not fixed, past the end", loose(prots(bare(1, maxVPN, 2), 0)), 7)
	x.tells(t, "at the end", prots(bare(1, maxVPN-2, 2), 5), maxVPN-2)
	x.tells(t, "at the end, not fixed", loose(bare(1, maxVPN-3, 1)), maxVPN-3)
	file := func(off int) func(*api.Entry) {
		return func(e *api.Entry) { e.File, e.Off = 1, off }
	}
	may := func(prot int) func(*api.Entry) { return func(e *api.Entry) { e.Prot = prot } }
	share := func(e *api.Entry) { e.Shared, e.Inherit = true, api.Share }
	isList(t, "Entries", x.w.Entries(1), []api.Entry{
		area(0, 7), area(7, 9, may(0)), area(9, 11, file(1)), area(20, 22, file(0)), area(30, 34, file(0), share), area(maxVPN-3, maxVPN-2), area(maxVPN-2, maxVPN, may(5)),
	})
	for prot := range 8 {
		x.tells(t, "each Prot", prots(bare(1, 50, 2), prot), 50)
	}
}

func TestMapOfWhatMayNotBe(t *testing.T) { // P17.3
	x := made(t, []int{4, 4}, bare(1, 2, 9), store(1, 4, 5, 6), shared(1, 20, 2, 1, 0))
	for _, fixed := range []bool{true, false} {
		both := func(what string, err api.Errno, change func(o *api.Op)) {
			t.Helper()
			for _, o := range []api.Op{bare(1, 3, 2), filed(1, 3, 2, 1, 1), shared(1, 3, 2, 2, 0), region(1, 3, 2)} {
				o.Fixed = fixed
				change(&o)
				x.refuses(t, what, err, o)
			}
		}
		for _, n := range append(far(), 3, 16, 17, 1000, 1001, 1002) {
			if n > 0 {
				both("no such file", api.ErrNone, func(o *api.Op) { o.File = n })
				both("no such file, and nothing else that is right", api.ErrNone, func(o *api.Op) { o.File, o.Off, o.Pages, o.Prot, o.Addr = n, -1, 0, 8, -1 })
			} else {
				both("a File below 0", api.ErrInval, func(o *api.Op) { o.File = n })
				both("a File below 0, without an Off", api.ErrInval, func(o *api.Op) { o.File, o.Off = n, 0 })
			}
		}
		for _, n := range append(far(), -1, 1, maxPages) {
			both("no File, but an Off", api.ErrInval, func(o *api.Op) { o.File, o.Off = 0, n })
		}
		for _, n := range append(far(), -1, maxPages-1, maxPages) {
			both("an Off that may not be", api.ErrInval, func(o *api.Op) { o.File, o.Off = 1, n })
		}
		for _, n := range append(far(), -1, 0, maxPages+1) {
			both("so many pages", api.ErrInval, func(o *api.Op) { o.Pages = n })
		}
		for _, n := range append(far(), -1, 8, 15) {
			both("a Prot that may not be", api.ErrInval, func(o *api.Op) { o.Prot = n })
		}
	}
	for _, n := range append(far(), -1, maxVPN-1, maxVPN) {
		x.refuses(t, "fixed, where it may not be", api.ErrInval, bare(1, n, 2), filed(1, n, 2, 1, 1), region(1, n, 2))
	}
	x.tells(t, "a region behind all that were refused", region(1, 50, 1), 50)
	if l := x.w.Entries(1); l[len(l)-1].File != 1001 {
		t.Fatalf("Entries: %v", l)
	}
}

func TestMapAtItsEnds(t *testing.T) { // P17.3, R6
	for _, n := range append(far(), -1, 0) {
		x := made(t, []int{maxPages})
		want := n
		if n < 0 || n > maxVPN-2 {
			want = 0
		}
		x.tells(t, "not fixed, at any number", loose(bare(1, n, 2)), want)
	}
	x := made(t, []int{maxPages, 0})
	x.tells(t, "MaxPages pages", loose(bare(1, 3, maxPages)), 3)
	x.tells(t, "all pages of a file", filed(1, 5000, maxPages, 1, 0), 5000)
	x.tells(t, "the last page of a file", filed(1, 3, 1, 1, maxPages-1), 3)
	x.tells(t, "pages of a file that has none", filed(1, 4, 4, 2, maxPages-4), 4)
	x.refuses(t, "a page that is gone", api.ErrFault, load(1, 4, 0), store(1, 7, 0, 1))
	x.tells(t, "up to the end", bare(1, maxVPN-maxPages, maxPages), maxVPN-maxPages)
	x.refuses(t, "past the end", api.ErrInval, bare(1, maxVPN-maxPages+1, maxPages))
}

func TestMapWithoutSpace(t *testing.T) { // P17.3
	world, _ := flat.New([]int{3})
	for k := range maxVPN / maxPages {
		if a := world.Do(bare(1, k*maxPages+maxPages-1, 1)); a.Err != api.OK {
			t.Fatalf("OpMap: %v", a)
		}
	}
	refused := func(o api.Op, err api.Errno) {
		t.Helper()
		if a := world.Do(o); a != (api.Answer{Err: err}) {
			t.Fatalf("%+v: %v, want %v", o, a, err)
		}
	}
	for _, addr := range []int{-1, 0, 5, maxVPN, math.MaxInt} {
		refused(loose(bare(1, addr, maxPages)), api.ErrNoMem)
		refused(loose(filed(1, addr, maxPages, 1, 0)), api.ErrNoMem)
		refused(loose(shared(1, addr, maxPages, 1, 0)), api.ErrNoMem)
		refused(loose(region(1, addr, maxPages)), api.ErrNoMem)
		refused(loose(filed(1, addr, maxPages, 2, 0)), api.ErrNone)
		refused(loose(filed(1, addr, maxPages, 1, 1)), api.ErrInval)
	}
	if a := world.Do(fork(1)); a != (api.Answer{N: 2}) {
		t.Fatalf("OpFork: %v", a)
	}
	if a := world.Do(unmap(2, 0, maxPages)); a.Err != api.OK {
		t.Fatalf("OpUnmap: %v", a)
	}
	if a := world.Do(loose(bare(2, -1, maxPages))); a != (api.Answer{N: 0}) {
		t.Fatalf("OpMap: %v", a)
	}
	refused(send(2, 0, maxPages, 1), api.ErrNoMem)
	refused(send(2, 0, maxPages, 2), api.ErrNoMem)
	if a := world.Do(send(2, 0, maxPages-1, 1)); a != (api.Answer{N: 0}) {
		t.Fatalf("OpSend: %v", a)
	}
	if a := world.Do(loose(region(1, 0, maxPages-1))); a != (api.Answer{N: maxPages}) {
		t.Fatalf("OpMap: %v", a)
	}
	if l := world.Entries(1); l[1].File != 1001 {
		t.Fatalf("the first region: %v", l[1])
	}
}

// filesOf tells File of each entry of a process.
func filesOf(w *flat.World, proc int) []int {
	var list []int
	for _, e := range w.Entries(proc) {
		list = append(list, e.File)
	}
	return list
}

func TestRegions(t *testing.T) { // P17.3
	x := made(t, []int{3}, region(1, 0, 2), region(1, 2, 2), shared(1, 4, 2, 1, 0), region(1, 6, 2))
	isList(t, "several", filesOf(x.w, 1), []int{1001, 1002, 1, 1003})
	x.does(t, "OpStore", store(1, 0, 5, 7), store(1, 2, 5, 8), store(1, 7, 5, 9))
	for page, n := range []int{7, 0, 8, 0, 0, 0, 0, 9} {
		x.tells(t, "OpLoad", load(1, page, 5), n)
	}
	x.does(t, "OpUnmap", unmap(1, 0, 8))
	x.tells(t, "behind an OpUnmap", region(1, 0, 8), 0)
	isList(t, "behind an OpUnmap", filesOf(x.w, 1), []int{1004})
	for page := range 8 {
		x.tells(t, "noughts", load(1, page, 5), 0)
	}
	x.tells(t, "a child", fork(1), 2)
	x.tells(t, "of another process", region(2, 10, 1), 10)
	x.does(t, "OpExit", exit(2))
	x.tells(t, "behind an OpExit", region(1, 10, 1), 10)
	isList(t, "behind an OpExit", filesOf(x.w, 1), []int{1004, 1006})
	x.refuses(t, "by its number", api.ErrNone, shared(1, 20, 1, 1006, 0), filed(1, 20, 1, 1004, 0), get(1004, 0, 0), put(1004, 0, 0, 1), size(1004, 9), sync(1004))
}

func TestMapOverWhatThereWas(t *testing.T) { // P17.3: the pages mean something new
	over := map[string]api.Op{"bare": bare(1, 2, 2), "of a file": filed(1, 2, 2, 1, 1), "of a file, shared": shared(1, 2, 2, 1, 1), "a region": region(1, 2, 2)}
	for was, first := range over {
		for is, second := range over {
			what := was + ", then " + is
			x := made(t, []int{4}, put(1, 1, 5, 77), put(1, 2, 5, 78), first, store(1, 2, 5, 6), store(1, 3, 5, 7), fork(1))
			x.does(t, what, put(1, 1, 5, 87), put(1, 2, 5, 88))
			at1, _ := x.w.Byte(2, 2, 5)
			at2, _ := x.w.Byte(2, 3, 5)
			x.tells(t, what, second, 2)
			for page := 2; page < 4; page++ {
				want := 0
				if second.File == 1 {
					want = 85 + page
				}
				x.tells(t, what, load(1, page, 5), want)
			}
			x.tells(t, what+": the child", load(2, 2, 5), at1)
			x.tells(t, what+": the child", load(2, 3, 5), at2)
		}
	}
}

func TestMapOverAPart(t *testing.T) { // P17.3
	x := made(t, []int{6}, filed(1, 0, 6, 1, 0), store(1, 1, 0, 1), store(1, 2, 0, 2), store(1, 3, 0, 3), put(1, 5, 0, 5))
	x.tells(t, "in the middle", bare(1, 2, 1), 2)
	for page, n := range []int{0, 1, 0, 3, 0, 5} {
		x.tells(t, "OpLoad", load(1, page, 0), n)
	}
	x.does(t, "OpStore", store(1, 2, 0, 9))
	x.tells(t, "back", filed(1, 2, 1, 1, 2), 2)
	if l := x.w.Entries(1); len(l) != 1 {
		t.Fatalf("Entries: %v", l)
	}
	x.tells(t, "and without bytes of its own", load(1, 2, 0), 0)
}

func TestUnmapAndBack(t *testing.T) { // P17.3
	x := made(t, []int{4}, put(1, 2, 0, 9), bare(1, 0, 4), store(1, 1, 0, 1), store(1, 2, 0, 2), filed(1, 10, 4, 1, 0), store(1, 12, 0, 3), shared(1, 20, 4, 1, 0), store(1, 23, 0, 4))
	x.does(t, "OpUnmap", unmap(1, 1, 1), unmap(1, 12, 1), unmap(1, 23, 1))
	x.refuses(t, "what went", api.ErrFault, load(1, 1, 0), store(1, 12, 0, 1), loan(1, 23))
	x.tells(t, "back", bare(1, 1, 1), 1)
	x.tells(t, "back", filed(1, 12, 1, 1, 2), 12)
	x.tells(t, "back", shared(1, 23, 1, 1, 3), 23)
	for page, n := range map[int]int{1: 0, 2: 2, 12: 9, 23: 4} {
		x.tells(t, "behind it", load(1, page, 0), n)
	}
	x.does(t, "OpUnmap of all", unmap(1, 0, maxPages))
	isList(t, "Entries", x.w.Entries(1), nil)
	x.does(t, "OpUnmap of nothing", unmap(1, 0, maxPages))
}

// rangeCall is a kind that is done with a range, and vmap's call of it.
type rangeCall struct {
	op   func(proc, lo, pages int) api.Op
	call func(m *vmap.Map, lo, pages int) api.Errno
}

func rangeCalls() []rangeCall {
	list := []rangeCall{
		{unmap, func(m *vmap.Map, lo, pages int) api.Errno { _, err := m.Unmap(lo, pages); return err }},
		{lock, func(m *vmap.Map, lo, pages int) api.Errno { return m.Wire(lo, pages, true) }},
		{unlock, func(m *vmap.Map, lo, pages int) api.Errno { return m.Wire(lo, pages, false) }},
	}
	for _, n := range append(far(), -1, 0, 1, 2, 3, 4, 5, 6, 7, 8, 9) {
		list = append(list,
			rangeCall{func(proc, lo, pages int) api.Op { return protect(proc, lo, pages, n) }, func(m *vmap.Map, lo, pages int) api.Errno { return m.Protect(lo, pages, n) }},
			rangeCall{func(proc, lo, pages int) api.Op { return inherit(proc, lo, pages, n) }, func(m *vmap.Map, lo, pages int) api.Errno { return m.Inherit(lo, pages, n) }},
			rangeCall{func(proc, lo, pages int) api.Op { return advise(proc, lo, pages, n) }, func(m *vmap.Map, lo, pages int) api.Errno { return m.Advise(lo, pages, n) }},
		)
	}
	return list
}

func TestRangesAsVmapDoes(t *testing.T) { // P17.3
	type pages struct{ lo, n int }
	ranges := []pages{{0, 1}, {2, 4}, {2, 5}, {3, 1}, {4, 3}, {1, 1}, {1, 2}, {10, 2}, {2, 10}, {0, maxPages}, {3, maxPages}, {maxVPN - 1, 1}, {-1, 2}, {2, 0}, {2, -1}, {2, maxPages + 1}, {maxVPN - 1, 2}, {maxVPN, 1}}
	for _, n := range far() {
		ranges = append(ranges, pages{n, 1}, pages{2, n}, pages{n, n})
	}
	for _, c := range rangeCalls() {
		for _, x := range ranges {
			w := made(t, []int{9}, bare(1, 2, 4), filed(1, 6, 3, 1, 2), shared(1, 11, 2, 1, 0), bare(1, maxVPN-1, 1), fork(1))
			m := vmap.New()
			for _, e := range w.w.Entries(1) {
				m.Map(e.Start, e, true)
			}
			w.does(t, "OpStore", store(1, 3, 5, 3), store(1, 7, 5, 4), store(1, 11, 5, 5), store(2, 3, 5, 6))
			want := c.call(m, x.lo, x.n)
			if a := w.do(t, "a range", c.op(1, x.lo, x.n)); a != (api.Answer{Err: want}) {
				t.Fatalf("%+v: %v, want %v", c.op(1, x.lo, x.n), a, want)
			}
			isList(t, "Entries", w.w.Entries(1), m.Entries())
		}
	}
}

func TestLockAndUnlock(t *testing.T) { // P17.3
	x := made(t, nil, bare(1, 2, 3))
	wired := func(e *api.Entry) { e.Wired = true }
	x.does(t, "OpLock", lock(1, 3, 1), lock(1, 3, 1))
	isList(t, "OpLock", x.w.Entries(1), []api.Entry{area(2, 3), area(3, 4, wired), area(4, 5)})
	x.does(t, "OpUnlock", unlock(1, 2, 3))
	isList(t, "OpUnlock", x.w.Entries(1), []api.Entry{area(2, 5)})
}

func TestDontNeed(t *testing.T) { // P17.3
	x := made(t, []int{6}, put(1, 1, 5, 71), put(1, 2, 5, 72), bare(1, 0, 4), filed(1, 4, 4, 1, 0), shared(1, 8, 4, 1, 2), region(1, 12, 2))
	for page := range 14 {
		x.does(t, "OpStore", store(1, page, 5, 10+page))
	}
	x.does(t, "OpPut", put(1, 1, 5, 81))
	for _, how := range []int{api.Normal, api.Random, api.Sequential, api.WillNeed} {
		x.does(t, "other advice", advise(1, 0, 14, how))
		for page := range 14 {
			x.tells(t, "other advice", load(1, page, 5), 10+page)
		}
	}
	x.refuses(t, "a hole", api.ErrNoMem, advise(1, 2, 13, api.DontNeed))
	x.does(t, "DontNeed", advise(1, 2, 11, api.DontNeed))
	for page, n := range []int{10, 11, 0, 0, 0, 81, 18, 19, 18, 19, 20, 21, 22, 23} {
		x.tells(t, "DontNeed", load(1, page, 5), n)
	}
	x.does(t, "OpPut", put(1, 2, 5, 33))
	x.tells(t, "the file's bytes, as they change", load(1, 6, 5), 33)
	x.does(t, "OpStore", store(1, 6, 0, 1), put(1, 2, 5, 34))
	x.tells(t, "bytes of its own again", load(1, 6, 5), 33)
	x.does(t, "OpUnlock and OpProtect are no advice", protect(1, 0, 14, rw), unlock(1, 0, 14), lock(1, 0, 14))
	x.tells(t, "bytes of its own still", load(1, 6, 5), 33)
}

func TestDontNeedOfSlotsThatAreShared(t *testing.T) { // P17.3
	x := made(t, []int{4}, put(1, 1, 5, 71), bare(1, 0, 2), filed(1, 2, 2, 1, 0), inherit(1, 0, 4, api.Share), store(1, 0, 5, 6), store(1, 3, 5, 7), fork(1))
	x.tells(t, "both have them", load(2, 0, 5), 6)
	x.tells(t, "both have them", load(2, 3, 5), 7)
	x.does(t, "DontNeed", advise(2, 0, 4, api.DontNeed))
	x.tells(t, "lost for both", load(1, 0, 5), 0)
	x.tells(t, "lost for both", load(1, 3, 5), 71)
	x.tells(t, "lost for both", load(2, 3, 5), 71)
	x.does(t, "OpStore", store(1, 0, 5, 8))
	x.tells(t, "and still one slot", load(2, 0, 5), 8)
	x.does(t, "a slot of one alone", inherit(1, 0, 4, api.Copy))
	x.tells(t, "OpFork", fork(1), 3)
	x.does(t, "DontNeed", advise(3, 0, 4, api.DontNeed))
	x.tells(t, "lost for the one", load(3, 0, 5), 0)
	x.tells(t, "and not for the others", load(1, 0, 5), 8)
	x.tells(t, "and not for the others", load(2, 0, 5), 8)
}

func TestDontNeedOfGonePages(t *testing.T) { // P17.3
	x := made(t, []int{2}, filed(1, 0, 3, 1, 0), store(1, 1, 5, 7), size(1, 1))
	x.tells(t, "bytes of its own, though the file is cut", load(1, 1, 5), 7)
	x.does(t, "OpStore", store(1, 1, 6, 8))
	x.does(t, "DontNeed", advise(1, 0, 3, api.DontNeed))
	x.refuses(t, "the file's page is gone", api.ErrFault, load(1, 1, 5), store(1, 1, 5, 1), loan(1, 1), load(1, 2, 5))
	x.tells(t, "of it that is not", load(1, 0, 5), 0)
	x.does(t, "OpSize", size(1, 2))
	x.tells(t, "it comes again", load(1, 1, 5), 0)
}

// wrongAts has numbers that are no byte of a page.
func wrongAts() []int { return append(far(), -1, 4096) }

func TestLoadsErrors(t *testing.T) { // P17.3, R2
	x := made(t, []int{1}, bare(1, 0, 1), filed(1, 2, 3, 1, 0), prots(filed(1, 6, 2, 1, 0), w), prots(bare(1, 9, 1), 0))
	for _, page := range append(far(), -1, 0, 1, 2, 3, 6, 7, 9) {
		for _, at := range wrongAts() {
			x.refuses(t, "At that is none, whatever else", api.ErrInval, load(1, page, at))
		}
	}
	for _, page := range append(far(), -1, 1, 5, 8, 10, maxVPN-1, maxVPN) {
		x.refuses(t, "no entry", api.ErrFault, load(1, page, 0), load(1, page, 4095))
	}
	for prot := range 8 {
		for _, page := range []int{0, 2, 3, 6, 7, 9} {
			x.does(t, "OpProtect", protect(1, page, 1, prot))
			switch gone := page == 3 || page == 7; {
			case prot&r == 0:
				x.refuses(t, "no right", api.ErrAccess, load(1, page, 0), load(1, page, 4095))
			case gone:
				x.refuses(t, "gone", api.ErrFault, load(1, page, 0), load(1, page, 4095))
			default:
				x.does(t, "OpLoad", load(1, page, 0), load(1, page, 4095))
			}
		}
	}
}

func TestStoresErrors(t *testing.T) { // P17.3, R2
	x := made(t, []int{1}, bare(1, 0, 1), filed(1, 2, 3, 1, 0), shared(1, 6, 2, 1, 0), prots(bare(1, 9, 1), 0))
	for _, page := range append(far(), -1, 0, 1, 2, 3, 6, 7, 9) {
		for _, n := range wrongAts() {
			x.refuses(t, "At that is none, whatever else", api.ErrInval, store(1, page, n, 1), store(1, page, n, -1))
		}
		for _, n := range append(far(), -1, 256) {
			x.refuses(t, "Value that is none, whatever else", api.ErrInval, store(1, page, 0, n), store(1, page, 4095, n))
		}
	}
	for _, page := range append(far(), -1, 1, 5, 8, 10, maxVPN-1, maxVPN) {
		x.refuses(t, "no entry", api.ErrFault, store(1, page, 0, 1), store(1, page, 4095, 0))
	}
	for prot := range 8 {
		for _, page := range []int{0, 2, 3, 6, 7, 9} {
			x.does(t, "OpProtect", protect(1, page, 1, prot))
			switch gone := page == 3 || page == 7; {
			case prot&w == 0:
				x.refuses(t, "no right", api.ErrAccess, store(1, page, 0, 1), store(1, page, 4095, 255))
			case gone:
				x.refuses(t, "gone", api.ErrFault, store(1, page, 0, 1), store(1, page, 4095, 255))
			default:
				x.does(t, "OpStore", store(1, page, 0, prot+1), store(1, page, 4095, 255), store(1, page, 5, 0))
			}
		}
	}
}

func TestStoreOfEachByte(t *testing.T) { // P17.3
	x := made(t, []int{1}, bare(1, 0, 1), shared(1, 1, 1, 1, 0))
	for _, page := range []int{0, 1} {
		for at := range 4096 {
			if a := x.w.Do(store(1, page, at, (at*7+page)%256)); a != (api.Answer{}) {
				t.Fatalf("OpStore: %v", a)
			}
		}
	}
	for _, page := range []int{0, 1} {
		for at := range 4096 {
			want := (at*7 + page) % 256
			if a := x.w.Do(load(1, page, at)); a != (api.Answer{N: want}) {
				t.Fatalf("OpLoad(%d, %d): %v, want %d", page, at, a, want)
			}
			x.byte(t, "each byte", 1, page, at, want, api.OK)
		}
	}
	for at := range 4096 {
		x.fileByte(t, "each byte", 1, 0, at, (at*7+1)%256, api.OK)
	}
}

func TestStoreThroughSharedPages(t *testing.T) { // P17.3, P17.4
	x := made(t, []int{4, 4}, shared(1, 0, 4, 1, 0), shared(1, 10, 2, 1, 2), filed(1, 20, 4, 1, 0), shared(1, 30, 4, 2, 0), fork(1), bare(1, 40, 1))
	x.does(t, "OpStore", store(1, 2, 5, 7))
	for _, o := range []api.Op{load(1, 2, 5), load(1, 10, 5), load(1, 22, 5), load(2, 2, 5), load(2, 10, 5), load(2, 22, 5), get(1, 2, 5)} {
		x.tells(t, "all who mean that page", o, 7)
	}
	for _, o := range []api.Op{load(1, 1, 5), load(1, 3, 5), load(1, 11, 5), load(1, 32, 5), load(1, 2, 4), load(1, 2, 6), get(1, 3, 5), get(2, 2, 5), load(1, 40, 5)} {
		x.tells(t, "who does not", o, 0)
	}
	x.does(t, "OpStore of a child", store(2, 11, 0, 8))
	x.tells(t, "the parent", load(1, 3, 0), 8)
	x.does(t, "OpPut", put(1, 3, 0, 9))
	x.tells(t, "what is put", load(1, 11, 0), 9)
	x.does(t, "OpSize", size(1, 3))
	x.refuses(t, "a file that is cut", api.ErrFault, load(1, 3, 0), load(1, 11, 0), load(2, 23, 0), store(2, 3, 0, 1), store(2, 23, 0, 1))
	x.tells(t, "what is left", load(2, 10, 5), 7)
	x.does(t, "OpSize", size(1, 4))
	x.tells(t, "noughts", load(1, 11, 0), 0)
}

func TestStoreThroughPrivatePages(t *testing.T) { // P17.3, P17.4
	x := made(t, []int{4}, put(1, 1, 5, 7), put(1, 1, 6, 6), filed(1, 0, 4, 1, 0), filed(1, 10, 2, 1, 1), shared(1, 20, 4, 1, 0))
	x.tells(t, "OpFork", fork(1), 2)
	x.tells(t, "the file's bytes", load(1, 1, 5), 7)
	x.does(t, "OpPut", put(1, 1, 5, 8))
	for _, o := range []api.Op{load(1, 1, 5), load(1, 10, 5), load(2, 1, 5), load(2, 10, 5)} {
		x.tells(t, "what is put into the file", o, 8)
	}
	x.does(t, "OpStore", store(1, 1, 4, 9))
	for _, o := range []api.Op{load(1, 1, 5), load(1, 10, 5), load(2, 1, 5)} {
		x.tells(t, "the base's bytes, beside what is stored", o, 8)
	}
	for _, o := range []api.Op{get(1, 1, 4), load(1, 10, 4), load(1, 21, 4), load(2, 1, 4), load(2, 10, 4)} {
		x.tells(t, "nobody else sees it", o, 0)
	}
	x.does(t, "OpPut", put(1, 1, 5, 10))
	x.tells(t, "who has stored shows what was", load(1, 1, 5), 8)
	x.tells(t, "who has not, what is", load(1, 10, 5), 10)
	x.does(t, "OpStore of what is there", store(2, 1, 5, 10), put(1, 1, 5, 11))
	x.tells(t, "bytes of its own, that were alike", load(2, 1, 5), 10)
	x.does(t, "OpStore of noughts", store(1, 0, 5, 0), put(1, 0, 5, 12))
	x.tells(t, "noughts of its own", load(1, 0, 5), 0)
	x.tells(t, "the other process", load(2, 0, 5), 12)
}

func TestFork(t *testing.T) { // P17.3
	ops := []api.Op{put(1, 0, 5, 90), put(1, 1, 5, 91)}
	for k, how := range []int{api.Copy, api.Share, api.None} {
		lo := 20 * k // of each kind a page with bytes and one without
		ops = append(ops, bare(1, lo, 2), filed(1, lo+4, 2, 1, 0), shared(1, lo+8, 2, 1, 0), region(1, lo+12, 2))
		for page := lo; page < lo+16; page += 4 {
			if page != lo+8 {
				ops = append(ops, store(1, page, 5, page+1))
			}
			ops = append(ops, inherit(1, page, 2, how))
		}
	}
	x := made(t, []int{2}, ops...)
	x.tells(t, "OpFork", fork(1), 2)
	var want []api.Entry
	for _, e := range x.w.Entries(1) {
		if e.Inherit != api.None {
			e.Shared = e.Shared && e.Inherit == api.Share
			want = append(want, e)
		}
	}
	isList(t, "the child's Entries", x.w.Entries(2), want)
	for page, n := range map[int]int{0: 1, 1: 0, 4: 5, 5: 91, 8: 90, 9: 91, 12: 13, 13: 0, 20: 21, 21: 0, 24: 25, 25: 91, 28: 90, 29: 91, 32: 33, 33: 0} {
		x.tells(t, "the child", load(2, page, 5), n)
	}
	for _, page := range []int{40, 41, 44, 48, 49, 52, 53} {
		x.refuses(t, "what is not inherited", api.ErrFault, load(2, page, 5), store(2, page, 5, 1))
	}
	apart := []int{0, 1, 4, 5, 8, 9, 12, 13}
	for _, page := range []int{0, 1, 4, 5, 8, 9, 12, 13, 20, 21, 24, 25, 28, 29, 32, 33} {
		was, _ := x.w.Byte(1, page, 6)
		x.does(t, "a store of the child", store(2, page, 6, 100+page))
		if !slices.Contains(apart, page) {
			was = 100 + page
		}
		x.tells(t, "a store of the child, in the parent", load(1, page, 6), was)
		x.does(t, "a store of the parent", store(1, page, 6, 150+page))
		is := 150 + page
		if slices.Contains(apart, page) {
			is = 100 + page
		}
		x.tells(t, "a store of the parent, in the child", load(2, page, 6), is)
	}
}

func TestForkOfSharedPagesThatAreCopied(t *testing.T) { // P17.3: their base is the page of File
	x := made(t, []int{2}, shared(1, 0, 2, 1, 0), region(1, 2, 2), inherit(1, 0, 4, api.Copy), store(1, 0, 5, 6), store(1, 2, 5, 7), fork(1))
	x.does(t, "stores of the parent", store(1, 0, 5, 16), store(1, 2, 5, 17), store(1, 3, 5, 18))
	for page, n := range []int{16, 0, 17, 18} {
		x.tells(t, "seen till the child stores", load(2, page, 5), n)
		x.does(t, "a store of the child", store(2, page, 6, 1))
	}
	x.does(t, "stores of the parent", store(1, 0, 5, 26), store(1, 2, 5, 27))
	x.tells(t, "and not behind it", load(2, 0, 5), 16)
	x.tells(t, "and not behind it", load(2, 2, 5), 17)
	x.tells(t, "nor is the child's store", load(1, 3, 6), 0)
	x.does(t, "OpExit", exit(1), advise(2, 0, 4, api.DontNeed))
	for page, n := range []int{26, 0, 27, 18} {
		x.tells(t, "the base again, though the parent is gone", load(2, page, 5), n)
	}
	x.tells(t, "a child of the child", fork(2), 1)
	x.tells(t, "a child of the child", load(1, 2, 5), 27)
	x.does(t, "OpUnmap", unmap(2, 2, 2))
	x.tells(t, "a child of the child", load(1, 3, 5), 18)
}

func TestForkOfAChild(t *testing.T) { // P17.3
	x := made(t, []int{2}, bare(1, 0, 4), inherit(1, 2, 2, api.Share), store(1, 0, 5, 1), store(1, 2, 5, 2), fork(1), store(2, 0, 5, 11), store(2, 3, 5, 13), fork(2))
	for page, n := range []int{11, 0, 2, 13} {
		x.tells(t, "the child's child", load(3, page, 5), n)
	}
	x.does(t, "stores", store(3, 0, 5, 21), store(3, 1, 5, 22), store(3, 2, 5, 23), store(3, 3, 5, 24))
	for page, n := range []int{1, 0, 23, 24} {
		x.tells(t, "the parent", load(1, page, 5), n)
	}
	for page, n := range []int{11, 0, 23, 24} {
		x.tells(t, "the child", load(2, page, 5), n)
	}
	x.does(t, "the child shares what it had copied", inherit(2, 0, 1, api.Share))
	x.tells(t, "another child of the child", fork(2), 4)
	x.does(t, "a store", store(4, 0, 5, 31))
	for proc, n := range map[int]int{1: 1, 2: 31, 3: 21, 4: 31} {
		x.tells(t, "who shares it", load(proc, 0, 5), n)
	}
	x.does(t, "OpExit of all but one", exit(1), exit(2), exit(3))
	x.tells(t, "what they shared lives on", load(4, 0, 5), 31)
	x.tells(t, "what they shared lives on", load(4, 2, 5), 23)
}

func TestForkKeepsWhatTheSlotWasApart(t *testing.T) { // P17.3: an unmapped page's slot is the other one's alone
	x := made(t, nil, bare(1, 0, 2), inherit(1, 0, 2, api.Share), store(1, 0, 5, 1), fork(1))
	x.does(t, "OpUnmap", unmap(1, 0, 1))
	x.tells(t, "it was shared", load(2, 0, 5), 1)
	x.tells(t, "OpMap again", bare(1, 0, 1), 0)
	x.does(t, "a store", store(1, 0, 5, 9))
	x.tells(t, "and is not any more", load(2, 0, 5), 1)
	x.does(t, "a store", store(2, 1, 5, 8))
	x.tells(t, "the other page still is", load(1, 1, 5), 8)
	x.does(t, "protected, wired, advised", protect(1, 1, 1, r), lock(1, 1, 1), advise(1, 1, 1, api.Random), inherit(1, 1, 1, api.None), store(2, 1, 5, 7))
	x.tells(t, "the other page still is", load(1, 1, 5), 7)
}

func TestForkUnwires(t *testing.T) { // P17.3
	x := made(t, []int{4}, bare(1, 0, 3), lock(1, 1, 1), protect(1, 2, 1, r), advise(1, 2, 1, api.Random), shared(1, 5, 2, 1, 2), lock(1, 5, 2), fork(1))
	advised := func(e *api.Entry) { e.Prot, e.Advice = r, api.Random }
	of := func(e *api.Entry) { e.File, e.Off, e.Shared, e.Inherit = 1, 2, true, api.Share }
	isList(t, "the child", x.w.Entries(2), []api.Entry{area(0, 2), area(2, 3, advised), area(5, 7, of)})
	if l := x.w.Entries(1); !l[1].Wired || !l[len(l)-1].Wired {
		t.Fatalf("the parent: %v", l)
	}
}

func TestForkMergesWhatIsNotSharedAnyMore(t *testing.T) { // P17.3
	x := made(t, []int{4}, filed(1, 0, 2, 1, 0), shared(1, 2, 2, 1, 2), inherit(1, 2, 2, api.Copy), store(1, 1, 5, 1), store(1, 2, 5, 2), fork(1))
	of := func(e *api.Entry) { e.File = 1 }
	isList(t, "the child", x.w.Entries(2), []api.Entry{area(0, 4, of)})
	x.tells(t, "the parent's own", load(2, 1, 5), 1)
	x.tells(t, "the file's", load(2, 2, 5), 2)
}

func TestForkNumbers(t *testing.T) { // P17.3
	x := made(t, nil, bare(1, 0, 1), store(1, 0, 5, 1))
	for proc := 2; proc <= maxProcs; proc++ {
		x.tells(t, "the lowest that none has", fork(proc-1), proc)
	}
	x.refuses(t, "MaxProcs", api.ErrNoMem, fork(1), fork(maxProcs))
	x.refuses(t, "no such process is told first", api.ErrNone, fork(0), fork(17))
	x.does(t, "OpExit", exit(7), exit(3), exit(1))
	for _, proc := range []int{1, 3, 7} {
		x.tells(t, "the lowest that none has", fork(16), proc)
		x.does(t, "OpStore", store(proc, 0, 5, proc+50))
	}
	x.refuses(t, "MaxProcs", api.ErrNoMem, fork(7))
	for proc := 1; proc <= maxProcs; proc++ {
		x.does(t, "OpExit", exit(proc))
		x.refuses(t, "it is gone", api.ErrNone, exit(proc), fork(proc), load(proc, 0, 5))
	}
	isList(t, "Procs", x.w.Procs(), nil)
}

func TestForkOfMoreThanMaxPages(t *testing.T) { // P17.3: it is none there
	x := made(t, nil, bare(1, 0, maxPages), bare(1, maxPages, 1), bare(1, 2*maxPages, maxPages), protect(1, 2*maxPages, 1, r), bare(1, 4*maxPages, maxPages), store(1, 5, 5, 1), store(1, 4*maxPages+5, 5, 4))
	isList(t, "the parent", x.w.Entries(1)[:1], []api.Entry{area(0, maxPages+1)})
	x.tells(t, "OpFork", fork(1), 2)
	x.refuses(t, "none there", api.ErrFault, load(2, 0, 0), load(2, 5, 5), load(2, maxPages, 5))
	x.tells(t, "just MaxPages", load(2, 4*maxPages+5, 5), 4)
	isList(t, "the child", x.w.Entries(2), x.w.Entries(1)[1:])
	x.tells(t, "mapped there", bare(2, 5, 1), 5)
	x.tells(t, "without what the parent has", load(2, 5, 5), 0)
	x.does(t, "OpUnmap", unmap(2, 0, maxPages), unmap(1, 100, maxPages-99), exit(2))
	x.tells(t, "OpMap", bare(1, 100, maxPages-100), 100)
	x.does(t, "wired in part: merged in the child alone", lock(1, 0, 7))
	x.tells(t, "OpMap", bare(1, maxPages, 1), maxPages)
	if l := x.w.Entries(1); l[0] != area(0, 7, func(e *api.Entry) { e.Wired = true }) || l[1] != area(7, maxPages+1) {
		t.Fatalf("the parent: %v", l)
	}
	x.tells(t, "OpFork", fork(1), 2)
	x.refuses(t, "none there", api.ErrFault, load(2, 0, 0), load(2, 7, 0))
	x.does(t, "cut", protect(1, 3, 1, r))
	x.tells(t, "OpFork", fork(1), 3)
	x.tells(t, "cut, it is there", load(3, 5, 5), 1)
}

func TestExit(t *testing.T) { // P17.3
	x := made(t, []int{2}, bare(1, 0, 2), inherit(1, 0, 1, api.Share), shared(1, 2, 2, 1, 0), region(1, 4, 1), fork(1), store(1, 0, 5, 1), store(1, 1, 5, 2), store(1, 2, 5, 3), store(1, 4, 5, 4), loan(1, 0), loan(1, 4))
	x.does(t, "OpExit", exit(1))
	isList(t, "Procs", x.w.Procs(), []int{2})
	x.byte(t, "who is gone", 1, 0, 5, 0, api.ErrNone)
	isList(t, "who is gone", x.w.Entries(1), nil)
	for page, n := range []int{1, 0, 3, 0, 4} {
		x.tells(t, "what is shared lives on", load(2, page, 5), n)
	}
	x.does(t, "OpExit", exit(2))
	x.tells(t, "a loan of who is gone", peek(1, 5), 1)
	x.tells(t, "a loan of who is gone", peek(2, 5), 4)
	x.tells(t, "the file", get(1, 0, 5), 3)
	x.does(t, "what needs no process", giveBack(1), put(1, 1, 5, 9), size(1, 4), sync(1), tick(9))
	x.refuses(t, "what needs one", api.ErrNone, fork(1), fork(2), bare(1, 0, 1), send(1, 0, 1, 2))
}

func TestLoansErrors(t *testing.T) { // P17.3, R2
	x := made(t, []int{1}, filed(1, 0, 2, 1, 0), bare(1, 2, 1), prots(bare(1, 3, 1), w|api.Exec), prots(filed(1, 4, 1, 1, 0), 0), prots(filed(1, 5, 1, 1, 1), w))
	for range 2 { // before there are 64, and then
		for _, page := range append(far(), -1, 6, maxVPN) {
			x.refuses(t, "no entry", api.ErrFault, loan(1, page))
		}
		x.refuses(t, "no right", api.ErrAccess, loan(1, 3), loan(1, 4), loan(1, 5))
		x.refuses(t, "gone", api.ErrFault, loan(1, 1))
		x.refuses(t, "no such process", api.ErrNone, loan(0, 2), loan(2, 2))
		for n := len(x.w.Handles()) + 1; n <= maxLoans; n++ {
			x.tells(t, "the lowest that is not open", with(loan(1, 2*(n%2)), func(o *api.Op) { o.At = -n }), n)
		}
		x.refuses(t, "64 are open", api.ErrNoMem, loan(1, 2), loan(1, 0))
	}
	x.does(t, "OpReturn", giveBack(64), giveBack(9), giveBack(1), giveBack(33))
	for _, n := range []int{1, 9, 33, 64} {
		x.tells(t, "the lowest that is not open", loan(1, 2), n)
	}
	x.refuses(t, "64 are open", api.ErrNoMem, loan(1, 2))
}

func TestLoanKeepsItsBytes(t *testing.T) { // P17.3
	x := made(t, []int{2}, bare(1, 0, 2), filed(1, 2, 2, 1, 0), shared(1, 4, 2, 1, 0), region(1, 6, 2), put(1, 1, 5, 7), put(1, 1, 4095, 255))
	x.does(t, "OpStore", store(1, 0, 5, 10), store(1, 2, 5, 12), store(1, 6, 5, 16), inherit(1, 0, 1, api.Share))
	x.tells(t, "OpFork", fork(1), 2)
	want := []int{10, 0, 12, 7, 0, 7, 16, 0}
	for page := range want {
		x.tells(t, "OpLoan", loan(1, page), page+1)
	}
	check := func(what string) {
		t.Helper()
		for k, n := range want {
			x.tells(t, what, peek(k+1, 5), n)
		}
		x.tells(t, what, peek(4, 4095), 255)
		x.tells(t, what, peek(6, 4095), 255)
	}
	check("as they are")
	for page := range want {
		x.does(t, "OpStore", store(1, page, 5, 50+page), store(1, page, 4095, 1))
	}
	check("behind stores")
	x.does(t, "stores of another process, and what is put", store(2, 0, 5, 90), store(2, 6, 5, 91), store(2, 4, 5, 92), put(1, 1, 5, 93), put(1, 0, 5, 94))
	check("behind stores of another process, and what is put")
	x.does(t, "DontNeed, a file that is cut, protected, unmapped", advise(1, 0, 8, api.DontNeed), size(1, 0), protect(1, 0, 8, 0), unmap(1, 0, 8))
	check("behind DontNeed, a file that is cut, protected, unmapped")
	x.does(t, "OpExit", exit(1), exit(2))
	check("behind OpExit")
}

func TestPeekAndReturn(t *testing.T) { // P17.3
	x := made(t, nil, bare(1, 0, 1), store(1, 0, 0, 7), store(1, 0, 4095, 255), loan(1, 0), loan(1, 0), loan(1, 0), giveBack(2))
	for _, handle := range append(far(), -1, 0, 2, 4, 64, 65) {
		x.refuses(t, "no such handle", api.ErrNone, peek(handle, 0), peek(handle, -1), peek(handle, 4096), giveBack(handle))
	}
	for _, at := range wrongAts() {
		x.refuses(t, "no such byte", api.ErrInval, peek(1, at), peek(3, at))
	}
	x.tells(t, "the first byte", peek(1, 0), 7)
	x.tells(t, "the last byte", peek(3, 4095), 255)
	x.does(t, "OpReturn", giveBack(3))
	x.refuses(t, "returned twice", api.ErrNone, giveBack(3), peek(3, 0))
	isList(t, "Handles", x.w.Handles(), []int{1})
	x.tells(t, "the lowest that is not open", loan(1, 0), 2)
	isList(t, "Handles", x.w.Handles(), []int{1, 2})
}

func TestPutAndGet(t *testing.T) { // P17.3
	x := made(t, []int{2, 0, 1})
	for _, file := range append(far(), -1, 0, 4, 16, 17, 1001) {
		x.refuses(t, "no such file", api.ErrNone, put(file, 0, 0, 1), get(file, 0, 0), put(file, -1, -1, -1), get(file, -1, -1))
	}
	for _, at := range wrongAts() {
		x.refuses(t, "no such byte", api.ErrInval, put(1, 0, at, 1), get(1, 0, at), put(1, 2, at, 1), get(1, 2, at), put(2, 0, at, -1), get(1, -1, at))
	}
	for _, n := range append(far(), -1, 256) {
		x.refuses(t, "no such value", api.ErrInval, put(1, 0, 0, n), put(1, 2, 0, n), put(1, -1, 5, n))
		x.tells(t, "OpGet has none", with(get(1, 0, 0), func(o *api.Op) { o.Value = n }), 0)
	}
	for _, page := range append(far(), -1, 2, 3, maxPages) {
		x.refuses(t, "gone", api.ErrFault, put(1, page, 0, 1), get(1, page, 0))
	}
	x.refuses(t, "gone", api.ErrFault, put(2, 0, 0, 1), get(2, 0, 0), put(3, 1, 0, 1), get(3, 1, 0))
	x.does(t, "OpPut", put(1, 0, 0, 1), put(1, 1, 4095, 255), put(3, 0, 5, 9), put(1, 0, 5, 8), put(1, 0, 5, 0))
	for _, c := range []struct {
		o api.Op
		n int
	}{{get(1, 0, 0), 1}, {get(1, 1, 4095), 255}, {get(3, 0, 5), 9}, {get(1, 0, 5), 0}, {get(1, 1, 0), 0}, {get(3, 0, 0), 0}} {
		x.tells(t, "OpGet", c.o, c.n)
	}
}

func TestSize(t *testing.T) { // P17.3
	x := made(t, []int{3, 2}, shared(1, 0, 6, 1, 0), filed(1, 10, 6, 1, 0))
	for _, file := range append(far(), -1, 0, 3, 17, 1001) {
		x.refuses(t, "no such file", api.ErrNone, size(file, 2), size(file, -1), sync(file))
	}
	for _, n := range append(far(), -1, maxPages+1) {
		x.refuses(t, "so many pages", api.ErrInval, size(1, n))
	}
	for page := range 3 {
		x.does(t, "OpPut", put(1, page, 5, 7+page))
	}
	x.does(t, "OpPut, OpStore", put(2, 1, 5, 99), store(1, 12, 6, 6))
	x.does(t, "as many as there are", size(1, 3))
	for page := range 3 {
		x.tells(t, "as it was", get(1, page, 5), 7+page)
	}
	x.does(t, "cut", size(1, 1))
	x.refuses(t, "gone", api.ErrFault, get(1, 1, 5), get(1, 2, 5), load(1, 1, 5), load(1, 11, 5))
	x.tells(t, "what is left", load(1, 10, 5), 7)
	x.tells(t, "bytes of its own", load(1, 12, 5), 9)
	x.does(t, "grown", size(1, 5))
	for page := 1; page < 5; page++ {
		x.tells(t, "noughts", get(1, page, 5), 0)
		x.tells(t, "noughts", load(1, page, 5), 0)
	}
	x.does(t, "OpStore", store(1, 4, 5, 3))
	x.refuses(t, "gone", api.ErrFault, load(1, 5, 5), load(1, 15, 5))
	x.does(t, "no pages", size(1, 0))
	x.refuses(t, "gone", api.ErrFault, load(1, 0, 5), load(1, 10, 5), get(1, 0, 5))
	x.does(t, "MaxPages", size(1, maxPages))
	x.does(t, "the last page", put(1, maxPages-1, 5, 1))
	x.tells(t, "noughts again", get(1, 4, 5), 0)
	x.tells(t, "another file", get(2, 1, 5), 99)
	x.does(t, "OpSync", sync(1), sync(2))
}

func TestTick(t *testing.T) { // P17.3
	x := made(t, []int{1}, bare(1, 0, 2), store(1, 0, 5, 7))
	for _, n := range append(far(), -1, 0, 1, 4096) {
		x.does(t, "OpTick", tick(n))
	}
}

func TestSendsErrors(t *testing.T) { // P17.3, R2
	gone, noRead := filed(1, 3, 3, 1, 0), prots(bare(1, 6, 1), w|api.Exec)
	x := made(t, []int{1}, bare(1, 0, 3), gone, noRead, prots(filed(1, 7, 2, 1, 0), w), bare(1, 10, 2), fork(1))
	for _, to := range append(far(), -1, 0, 3, 17) {
		x.refuses(t, "to none", api.ErrNone, send(1, 0, 1, to), send(1, -1, 0, to), send(1, 9, 1, to), send(1, 6, 1, to))
	}
	for _, n := range append(far(), -1, 0, maxPages+1) {
		x.refuses(t, "so many pages", api.ErrInval, send(1, 0, n, 2), send(1, 6, n, 2), send(1, 10, n, 1), send(1, 100, n, 2))
	}
	for _, n := range append(far(), -1, maxVPN) {
		x.refuses(t, "where no pages may be", api.ErrInval, send(1, n, 1, 2), send(1, n, maxPages, 2))
	}
	x.refuses(t, "beyond the end", api.ErrInval, send(1, maxVPN-1, 2, 2), send(1, maxVPN-maxPages+1, maxPages, 2))
	x.refuses(t, "a hole at the end", api.ErrNoMem, send(1, maxVPN-1, 1, 2), send(1, maxVPN-maxPages, maxPages, 2))
	x.refuses(t, "a hole", api.ErrNoMem, send(1, 9, 1, 2), send(1, 11, 2, 2), send(1, 9, 2, 2), send(1, 0, 12, 2), send(1, 4, 6, 2), send(1, 8, 2, 2), send(1, 0, maxPages, 1))
	x.refuses(t, "a page without Read", api.ErrAccess, send(1, 6, 1, 2), send(1, 7, 1, 1), send(1, 8, 1, 2), send(1, 4, 3, 2), send(1, 3, 6, 2))
	x.does(t, "OpUnmap", unmap(1, 5, 1), unmap(1, 2, 1))
	x.refuses(t, "a page that is gone", api.ErrFault, send(1, 4, 1, 2), send(1, 3, 2, 2), send(1, 3, 2, 1))
	x.tells(t, "none that is", send(1, 3, 1, 2), 9)
	x.tells(t, "to oneself", send(1, 10, 2, 1), 12)
}

func TestSend(t *testing.T) { // P17.3
	x := made(t, []int{3}, put(1, 1, 5, 71), fork(1), bare(2, 0, 2), prots(bare(2, 4, 1), r))
	x.does(t, "", advise(2, 4, 1, api.Normal))
	x.tells(t, "OpMap", bare(1, 10, 2), 10)
	x.tells(t, "OpMap", filed(1, 12, 2, 1, 0), 12)
	x.tells(t, "OpMap", shared(1, 14, 2, 1, 0), 14)
	x.tells(t, "OpMap", region(1, 16, 2), 16)
	x.does(t, "OpStore", store(1, 10, 5, 6), store(1, 12, 5, 7), store(1, 16, 5, 8), protect(1, 10, 8, r|api.Exec), lock(1, 10, 8), inherit(1, 10, 8, api.None), advise(1, 11, 7, api.Random))
	x.tells(t, "the lowest where there is space", send(1, 10, 8, 2), 5)
	x.tells(t, "where less is enough", send(1, 16, 2, 2), 2)
	isList(t, "private pages of no file", x.w.Entries(2), []api.Entry{area(0, 4), area(4, 5, func(e *api.Entry) { e.Prot = r }), area(5, 13)})
	for page, n := range []int{0, 0, 8, 0, 0, 6, 0, 7, 71, 0, 71, 8, 0} {
		x.tells(t, "the bytes of these pages", load(2, page, 5), n)
	}
	x.does(t, "stores of both", protect(1, 10, 8, rw))
	for k := range 8 {
		x.does(t, "stores of both", store(1, 10+k, 5, 100+k), store(2, 5+k, 4095, 120+k), store(2, 5+k, 6, 1))
	}
	x.does(t, "and what is put", put(1, 0, 5, 42), put(1, 1, 5, 43))
	for k, n := range []int{6, 0, 7, 71, 0, 71, 8, 0} {
		x.tells(t, "pages that are sent go their own way", load(2, 5+k, 5), n)
		x.tells(t, "pages that are sent go their own way", load(1, 10+k, 4095), 0)
	}
	x.does(t, "DontNeed", advise(2, 5, 8, api.DontNeed))
	for page := 5; page < 13; page++ {
		x.tells(t, "of no file: noughts", load(2, page, 5), 0)
	}
	x.does(t, "OpExit", exit(1))
	x.tells(t, "and they live on", load(2, 2, 5), 8)
}

func TestSendToOneself(t *testing.T) { // P17.3
	x := made(t, nil, bare(1, 3, 3), store(1, 3, 5, 6), store(1, 5, 5, 7))
	x.tells(t, "behind them", send(1, 3, 3, 1), 0)
	x.tells(t, "behind them", send(1, 4, 2, 1), 6)
	isList(t, "one entry", x.w.Entries(1), []api.Entry{area(0, 8)})
	x.does(t, "OpStore", store(1, 0, 5, 16), store(1, 5, 5, 17))
	for page, n := range []int{16, 0, 7, 6, 0, 17, 0, 7} {
		x.tells(t, "each goes its own way", load(1, page, 5), n)
	}
	x.tells(t, "all of them", send(1, 0, 8, 1), 8)
	x.tells(t, "all of them", load(1, 13, 5), 17)
}

func TestSendOfManyPages(t *testing.T) { // P17.3
	x := made(t, nil, bare(1, maxVPN-maxPages, maxPages), store(1, maxVPN-1, 5, 9), store(1, maxVPN-maxPages, 5, 8), fork(1))
	x.tells(t, "MaxPages, up to the end", send(1, maxVPN-maxPages, maxPages, 2), 0)
	x.tells(t, "the last one", load(2, maxPages-1, 5), 9)
	x.tells(t, "the first one", load(2, 0, 5), 8)
	x.tells(t, "the same again", send(1, maxVPN-maxPages, maxPages, 2), maxPages)
	x.tells(t, "of an entry that was merged", send(2, 5, maxPages, 2), 2*maxPages)
	x.tells(t, "of an entry that was merged", load(2, 3*maxPages-6, 5), 9)
	x.tells(t, "of an entry that was merged", load(2, 3*maxPages-5, 5), 8)
}

func TestG4(t *testing.T) { // P17.4: a store changes what others load only where they mean the same
	x := made(t, []int{3}, bare(1, 0, 3), filed(1, 3, 3, 1, 0), shared(1, 6, 3, 1, 0), region(1, 9, 3), inherit(1, 1, 1, api.Share), inherit(1, 4, 1, api.Share), inherit(1, 7, 1, api.Copy), inherit(1, 10, 1, api.Copy), fork(1), fork(1))
	mean := func(proc, page int) []api.Op { // who is to see a store of that process into that page
		all := func(page int) []api.Op { return []api.Op{load(1, page, 5), load(2, page, 5), load(3, page, 5)} }
		own := []api.Op{load(proc, page, 5)}
		switch {
		case page == 1 || page == 4 || page == 9 || page == 11:
			return all(page)
		case page == 6 || page == 8:
			return slices.Concat(all(page), all(page-3), []api.Op{get(1, page-6, 5)})
		case proc == 1 && page == 7:
			return slices.Concat(all(7), all(4), []api.Op{get(1, 1, 5)})
		case proc == 1 && page == 10:
			return all(10)
		}
		return own
	}
	for proc := 1; proc <= 3; proc++ {
		for page := range 12 {
			y := pair{x.w.Copy(), nil}
			if a := y.w.Do(store(proc, page, 5, 77)); a != (api.Answer{}) {
				t.Fatalf("OpStore: %v", a)
			}
			seen := mean(proc, page)
			for p := 1; p <= 3; p++ {
				for q := range 12 {
					want := 0
					if slices.Contains(seen, load(p, q, 5)) {
						want = 77
					}
					y.byte(t, "OpStore", p, q, 5, want, api.OK)
				}
			}
			for q := range 3 {
				want := 0
				if slices.Contains(seen, get(1, q, 5)) {
					want = 77
				}
				y.fileByte(t, "OpStore", 1, q, 5, want, api.OK)
			}
		}
	}
}

// crowd is a world in which there is something of each kind.
func crowd() []api.Op {
	return []api.Op{
		put(1, 0, 5, 3), put(1, 2, 0, 4),
		bare(1, 0, 4), filed(1, 4, 4, 1, 0), shared(1, 8, 3, 1, 0), region(1, 12, 2), bare(1, 20, maxPages), bare(1, 20+maxPages, 4),
		store(1, 0, 5, 10), store(1, 5, 5, 11), store(1, 12, 5, 12), store(1, 20, 0, 13), store(1, 21+maxPages, 0, 14),
		inherit(1, 0, 2, api.Share), inherit(1, 5, 1, api.Share), lock(1, 0, 1), advise(1, 9, 1, api.Random), protect(1, 3, 1, r),
		fork(1), fork(2), store(2, 1, 5, 15), store(3, 2, 5, 16), inherit(2, 13, 1, api.Copy), fork(2), loan(1, 0), loan(2, 8), giveBack(1), exit(3),
	}
}

// lively has operations that change such a world.
func lively() []api.Op {
	return []api.Op{
		store(1, 0, 5, 90), store(2, 1, 5, 91), store(4, 5, 5, 92), store(1, 8, 5, 93), store(2, 12, 5, 94), store(4, 13, 5, 95), store(1, 21+maxPages, 0, 96),
		put(1, 0, 5, 97), size(1, 2), size(1, 3), loan(1, 12), giveBack(2), loan(2, 0), advise(1, 0, 8, api.DontNeed), region(4, 50, 1), fork(4), exit(1), send(2, 0, 2, 4),
		unmap(2, 0, 9), bare(2, 4, 2), protect(4, 0, 1, 0), lock(4, 0, 1), inherit(4, 0, 1, api.None), fork(4), exit(2), exit(4),
	}
}

func TestCopy(t *testing.T) { // P17.1: it is alike, and what is done to either one changes nothing in the other
	alike := made(t, []int{3, 1}, crowd()...)
	x, y := made(t, []int{3, 1}, crowd()...), made(t, []int{3, 1}, crowd()...)
	y.w = x.w.Copy()
	y.has(t, "a copy")
	for _, o := range lively() {
		x.do(t, "the first one", o)
		y.has(t, "the copy, behind what was done to the first one")
	}
	z := pair{y.w.Copy(), alike.m}
	z.has(t, "a copy of the copy")
	for _, o := range lively() {
		y.do(t, "the copy", o)
		x.has(t, "the first one, behind what was done to the copy")
		z.has(t, "the copy of the copy")
	}
	for _, o := range lively() {
		z.do(t, "the copy of the copy", o)
	}
}

func TestCopyAtEachStep(t *testing.T) { // P17.1
	ops := append(crowd(), lively()...)
	for k := range ops {
		x := made(t, []int{3, 1})
		for _, o := range ops[:k] {
			x.w.Do(o)
			x.m.do(o)
		}
		x.w = x.w.Copy()
		x.has(t, "a copy")
		for _, o := range ops[k:] {
			x.do(t, "behind a copy", o)
		}
	}
}

func TestCopyOfSharedSlots(t *testing.T) { // P17.1: they are shared in the copy, too, and with nobody else
	x := made(t, []int{2}, bare(1, 0, 2), filed(1, 2, 2, 1, 0), inherit(1, 0, 4, api.Share), store(1, 0, 5, 1), fork(1), fork(2))
	y := made(t, []int{2}, bare(1, 0, 2), filed(1, 2, 2, 1, 0), inherit(1, 0, 4, api.Share), store(1, 0, 5, 1), fork(1), fork(2))
	y.w = x.w.Copy()
	for page := range 4 {
		y.does(t, "a store", store(2, page, 5, 50+page))
		for proc := 1; proc <= 3; proc++ {
			y.tells(t, "all three", load(proc, page, 5), 50+page)
		}
	}
	x.has(t, "the first one")
	for page, n := range []int{1, 0, 0, 0} {
		x.tells(t, "the first one", load(3, page, 5), n)
	}
}

func TestCopyOfManyPages(t *testing.T) { // P17.1: entries that were merged
	w, _ := flat.New([]int{maxPages})
	for k := range maxVPN / maxPages {
		if a := w.Do(loose(bare(1, -1, maxPages))); a != (api.Answer{N: k * maxPages}) {
			t.Fatalf("OpMap: %v", a)
		}
	}
	w.Do(store(1, maxVPN-1, 5, 9))
	c := w.Copy()
	isList(t, "a copy", c.Entries(1), []api.Entry{area(0, maxVPN)})
	x := pair{c, nil}
	x.byte(t, "a copy", 1, maxVPN-1, 5, 9, api.OK)
	x.byte(t, "a copy", 1, maxVPN-2, 5, 0, api.OK)
	if a := c.Do(loose(bare(1, -1, 1))); a != (api.Answer{Err: api.ErrNoMem}) {
		t.Fatalf("OpMap: %v", a)
	}
	if a := c.Do(fork(1)); a != (api.Answer{N: 2}) || len(c.Entries(2)) != 0 {
		t.Fatalf("OpFork: %v, %v", a, c.Entries(2))
	}
	c.Do(filed(1, 5, maxPages, 1, 0))
	c.Do(put(1, maxPages-1, 5, 8))
	isList(t, "the first one", w.Entries(1), []api.Entry{area(0, maxVPN)})
	of := func(e *api.Entry) { e.File = 1 }
	isList(t, "a copy of the copy", c.Copy().Entries(1), []api.Entry{area(0, 5), area(5, 5+maxPages, of), area(5+maxPages, maxVPN)})
	pair{c.Copy(), nil}.byte(t, "a copy of the copy", 1, 4+maxPages, 5, 8, api.OK)
}

// scribble writes over a list, and over the room behind its end.
func scribble[T any](l []T, with T) {
	l = l[:cap(l)]
	for k := range l {
		l[k] = with
	}
}

func TestListsAreNewMemory(t *testing.T) { // R3
	x := made(t, []int{3, 1}, crowd()...)
	for range 2 {
		procs, handles, entries := x.w.Procs(), x.w.Handles(), x.w.Entries(1)
		p, h, e := slices.Clone(procs), slices.Clone(handles), slices.Clone(entries)
		scribble(x.w.Procs(), -5)
		scribble(x.w.Handles(), -5)
		scribble(x.w.Entries(1), api.Entry{Start: 1, End: 2})
		isList(t, "Procs", procs, p)
		isList(t, "Handles", handles, h)
		isList(t, "Entries", entries, e)
		x.has(t, "behind a change of the answers")
		for _, o := range []api.Op{fork(1), loan(1, 0), bare(1, 2, 1)} {
			x.do(t, "behind a change of the answers", o)
		}
		isList(t, "Procs, behind other calls", procs, p)
		isList(t, "Handles, behind other calls", handles, h)
		isList(t, "Entries, behind other calls", entries, e)
	}
}

func TestCallsThatTellChangeNothing(t *testing.T) { // R4
	x := made(t, []int{3, 1}, crowd()...)
	for range 3 {
		for _, n := range append(far(), -1, 0, 1, 2, 5, 12, maxVPN) {
			x.w.Byte(1, n, 5)
			x.w.Byte(n, 5, n)
			x.w.FileByte(n, 1, 5)
			x.w.FileByte(1, n, n)
			x.w.Entries(n)
		}
		x.w.Copy()
		x.has(t, "behind calls that tell")
	}
}

func TestWorldThatNoCallMade(t *testing.T) { // R5
	for name, w := range map[string]*flat.World{"nil": nil, "a zero value": {}} {
		for range 2 {
			for _, kind := range append(far(), -1, 0, 1, 2, 3, 4, 5, 6, 7, 8, 9, 10, 11, 12, 13, 14, 15, 16, 17, 18, 19, 20, 21) {
				for _, n := range append(far(), -1, 0, 1) {
					o := api.Op{Kind: kind, Proc: n, Addr: n, Pages: n, Prot: n, File: n, Off: n, How: n, At: n, Value: n, Handle: n, To: n}
					if a := w.Do(o); a != (api.Answer{Err: api.ErrMade}) {
						t.Fatalf("%s: Do(%+v): %v", name, o, a)
					}
				}
			}
			for _, n := range append(far(), -1, 0, 1, 4096) {
				x := pair{w, nil}
				x.byte(t, name, n, n, n, 0, api.ErrMade)
				x.byte(t, name, 1, n, 0, 0, api.ErrMade)
				x.fileByte(t, name, n, n, n, 0, api.ErrMade)
				x.fileByte(t, name, 1, n, 0, 0, api.ErrMade)
				isList(t, name, w.Entries(n), nil)
			}
			isList(t, name, w.Procs(), nil)
			isList(t, name, w.Handles(), nil)
			if w.Copy() != nil {
				t.Fatalf("%s: Copy is a world", name)
			}
		}
	}
}
