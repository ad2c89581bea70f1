package loan_test

import (
	"math"
	"reflect"
	"slices"
	"testing"

	"pantry/api"
	"pantry/kern"
	"pantry/loan"
)

const (
	maxVPN  = 1 << 26
	maxMost = 64
	frames  = 64

	r  = api.Read
	rw = api.Read | api.Write
)

// far has numbers that are nowhere near any process, page, byte, handle or number of loans.
func far() []int {
	return []int{-2, -maxVPN, maxVPN + 2, 1 << 31, 1 << 32, 1<<32 + 1, -1 << 32, 1 << 62, -1 << 62, math.MinInt, math.MinInt + 1, math.MaxInt, math.MaxInt - 1}
}

// with is an operation that something was done to.
func with(o api.Op, change func(*api.Op)) api.Op {
	change(&o)
	return o
}

// Operations. Pages that are mapped are read and written, at addr.

func bare(proc, addr, pages int) api.Op {
	return api.Op{Kind: api.OpMap, Proc: proc, Addr: addr, Pages: pages, Prot: rw, Fixed: true}
}

func filed(proc, addr, pages, file, off int) api.Op {
	return with(bare(proc, addr, pages), func(o *api.Op) { o.File, o.Off = file, off })
}

func shared(proc, addr, pages, file, off int) api.Op {
	return with(filed(proc, addr, pages, file, off), func(o *api.Op) { o.Shared = true })
}

func prots(o api.Op, prot int) api.Op { return with(o, func(o *api.Op) { o.Prot = prot }) }

func ranged(kind, proc, lo, pages int) api.Op {
	return api.Op{Kind: kind, Proc: proc, Addr: lo, Pages: pages}
}

func unmap(proc, lo, pages int) api.Op { return ranged(api.OpUnmap, proc, lo, pages) }
func lock(proc, lo, pages int) api.Op  { return ranged(api.OpLock, proc, lo, pages) }

func protect(proc, lo, pages, prot int) api.Op {
	return prots(ranged(api.OpProtect, proc, lo, pages), prot)
}

func forget(proc, lo, pages int) api.Op {
	return with(ranged(api.OpAdvise, proc, lo, pages), func(o *api.Op) { o.How = api.DontNeed })
}

func load(proc, page, at int) api.Op {
	return api.Op{Kind: api.OpLoad, Proc: proc, Addr: page, At: at}
}

func store(proc, page, at, value int) api.Op {
	return api.Op{Kind: api.OpStore, Proc: proc, Addr: page, At: at, Value: value}
}

func fork(proc int) api.Op { return api.Op{Kind: api.OpFork, Proc: proc} }
func exit(proc int) api.Op { return api.Op{Kind: api.OpExit, Proc: proc} }

func put(file, page, at, value int) api.Op {
	return api.Op{Kind: api.OpPut, File: file, Off: page, At: at, Value: value}
}

func size(file, pages int) api.Op { return api.Op{Kind: api.OpSize, File: file, Pages: pages} }
func sync(file int) api.Op        { return api.Op{Kind: api.OpSync, File: file} }

func send(proc, lo, pages, to int) api.Op {
	return with(ranged(api.OpSend, proc, lo, pages), func(o *api.Op) { o.To = to })
}

// place is a kernel, and a desk of it.
type place struct {
	k *kern.Kernel
	d *loan.Desk
}

// shaped is a desk of a kernel of that shape, in which some operations were done, all OK.
func shaped(t *testing.T, x kern.Shape, most int, sizes []int, ops ...api.Op) *place {
	t.Helper()
	k, err := kern.New(x, sizes)
	if err != api.OK {
		t.Fatalf("kern's New: %v", err)
	}
	p := &place{k: k, d: loan.New(k, most)}
	if p.d == nil {
		t.Fatalf("New(%d): nil", most)
	}
	p.all(t, ops...)
	return p
}

// made is one with room for all that the tests do.
func made(t *testing.T, most int, ops ...api.Op) *place {
	t.Helper()
	return shaped(t, kern.Shape{Frames: frames, Slots: 32, Tlb: 8}, most, []int{3, 1}, ops...)
}

// all does operations that are OK.
func (p *place) all(t *testing.T, ops ...api.Op) {
	t.Helper()
	for _, o := range ops {
		if a := p.k.Do(o); a.Err != api.OK {
			t.Fatalf("%+v: %v", o, a)
		}
	}
}

// loads asks what a load tells.
func (p *place) loads(t *testing.T, proc, page, at, want int) {
	t.Helper()
	if a := p.k.Do(load(proc, page, at)); a != (api.Answer{N: want}) {
		t.Errorf("load of process %d, page %d, byte %d: %v, want %d", proc, page, at, a, want)
	}
}

// lends asks what Loan tells.
func (p *place) lends(t *testing.T, proc, page, want int, err api.Errno) {
	t.Helper()
	if h, e := p.d.Loan(proc, page); h != want || e != err {
		t.Errorf("Loan(%d, %d): %d, %v, want %d, %v", proc, page, h, e, want, err)
	}
}

// peeks asks what Peek tells.
func (p *place) peeks(t *testing.T, what string, handle, at, want int, err api.Errno) {
	t.Helper()
	if b, e := p.d.Peek(handle, at); b != want || e != err {
		t.Errorf("%s: Peek(%d, %d): %d, %v, want %d, %v", what, handle, at, b, e, want, err)
	}
}

// returns asks what Return tells.
func (p *place) returns(t *testing.T, handle int, want api.Errno) {
	t.Helper()
	if err := p.d.Return(handle); err != want {
		t.Errorf("Return(%d): %v, want %v", handle, err, want)
	}
}

// open asks which handles are open, and that those alone have frames.
func (p *place) open(t *testing.T, want ...int) {
	t.Helper()
	if got := p.d.Handles(); !slices.Equal(got, want) {
		t.Errorf("Handles: %v, want %v", got, want)
	}
	v := p.k.View()
	for h := -1; h <= maxMost+1; h++ {
		f := p.d.Frame(h)
		if is := slices.Contains(want, h); is != (f != -1) || is && v.Frames[f].Loan == 0 {
			t.Errorf("Frame(%d): %d, and %v are open", h, f, want)
		}
	}
}

// loans tells how often frames are lent.
func loans(k *kern.Kernel) int {
	n := 0
	for _, f := range k.View().Frames {
		n += f.Loan
	}
	return n
}

// evictAll evicts all that may be.
func (p *place) evictAll(t *testing.T) {
	t.Helper()
	for _, frame := range p.k.Resident() {
		if err := p.k.Evict(frame); err != api.OK && err != api.ErrBusy {
			t.Fatalf("Evict(%d): %v", frame, err)
		}
	}
}

// unchanged asks whether a call changed nothing at all.
func (p *place) unchanged(t *testing.T, what string, call func()) {
	t.Helper()
	view, handles, free := p.k.View(), p.d.Handles(), p.k.Free()
	call()
	if !reflect.DeepEqual(p.k.View(), view) || !slices.Equal(p.d.Handles(), handles) || p.k.Free() != free {
		t.Errorf("%s: something has changed", what)
	}
}

func TestExample(t *testing.T) { // the chapter's example
	p := made(t, 4, bare(1, 0, 1), store(1, 0, 0, 7))
	p.lends(t, 1, 0, 1, api.OK)
	p.all(t, store(1, 0, 0, 8))
	p.peeks(t, "behind the store", 1, 0, 7, api.OK)
	p.loads(t, 1, 0, 0, 8)
}

func TestNew(t *testing.T) { // P19.1
	k, _ := kern.New(kern.Shape{Frames: 9}, nil)
	for most, want := range map[int]bool{-1: false, 0: true, 1: true, 2: true, 63: true, 64: true, 65: false} {
		if d := loan.New(k, most); (d != nil) != want {
			t.Errorf("New(k, %d): %v", most, d)
		}
		if d := loan.New(nil, most); d != nil {
			t.Errorf("New(nil, %d): %v", most, d)
		}
	}
	for _, most := range far() {
		if d := loan.New(k, most); d != nil {
			t.Errorf("New(k, %d): %v", most, d)
		}
	}
}

func TestLowestHandle(t *testing.T) { // P19.1: from 1 on, also behind a Return in the middle
	p := made(t, maxMost, bare(1, 0, 9))
	p.open(t)
	for h := range 5 {
		p.lends(t, 1, h, h+1, api.OK)
	}
	p.open(t, 1, 2, 3, 4, 5)
	p.returns(t, 4, api.OK)
	p.returns(t, 2, api.OK)
	p.open(t, 1, 3, 5)
	p.lends(t, 1, 6, 2, api.OK)
	p.lends(t, 1, 7, 4, api.OK)
	p.lends(t, 1, 8, 6, api.OK)
	p.open(t, 1, 2, 3, 4, 5, 6)
	p.returns(t, 1, api.OK)
	p.returns(t, 6, api.OK)
	p.open(t, 2, 3, 4, 5)
	p.lends(t, 1, 0, 1, api.OK)
}

func TestMost(t *testing.T) { // P19.1: so many at once, and one more behind a Return
	for _, most := range []int{0, 1, 2, 63, 64} {
		p := made(t, most, bare(1, 0, 30))
		var want []int
		for n := range most {
			p.lends(t, 1, n%30, n+1, api.OK)
			want = append(want, n+1)
		}
		p.open(t, want...)
		for range 3 {
			p.unchanged(t, "one too many", func() { p.lends(t, 1, 3, 0, api.ErrNoMem) })
		}
		if most == 0 {
			continue
		}
		middle := most/2 + 1
		p.returns(t, middle, api.OK)
		p.lends(t, 1, 5, middle, api.OK)
		p.lends(t, 1, 5, 0, api.ErrNoMem)
		p.open(t, want...)
	}
}

// wrong are loans that may not be, and some that may, of a kernel of the operations that odd has.
var wrong = []struct {
	what       string
	proc, page int
	want       api.Errno
}{
	{"none", 1, 0, api.OK},
	{"the last page of an entry", 1, 3, api.OK},
	{"no such process", 2, 0, api.ErrNone},
	{"process 0", 0, 0, api.ErrNone},
	{"no such process, no entry", 2, 99, api.ErrNone},
	{"behind an entry", 1, 4, api.ErrFault},
	{"ahead of an entry", 1, 9, api.ErrFault},
	{"page -1", 1, -1, api.ErrFault},
	{"page MaxVPN", 1, maxVPN, api.ErrFault},
	{"the first page without a right to read", 1, 10, api.ErrAccess},
	{"the last page without a right to read", 1, 12, api.ErrAccess},
	{"behind a page without a right to read", 1, 13, api.ErrFault},
	{"the right to execute alone", 1, 14, api.ErrAccess},
	{"no right at all", 1, 15, api.ErrAccess},
	{"the last page of a file", 1, 20, api.OK},
	{"past its file's end", 1, 21, api.ErrFault},
	{"past its file's end, and it may not be read", 1, 22, api.ErrAccess},
	{"of a private entry, the last page of a file", 1, 25, api.OK},
	{"of a private entry, past its file's end, with bytes of its own", 1, 26, api.OK},
	{"of a private entry, past its file's end", 1, 27, api.ErrFault},
	{"a region", 1, 30, api.OK},
	{"may be read alone", 1, 31, api.OK},
}

// odd are operations behind which these loans are so.
func odd() []api.Op {
	return []api.Op{
		bare(1, 0, 4), prots(bare(1, 10, 3), api.Write), prots(bare(1, 14, 1), api.Exec), prots(bare(1, 15, 1), 0),
		shared(1, 20, 3, 1, 1), protect(1, 22, 1, api.Write), filed(1, 25, 3, 1, 1), store(1, 26, 0, 5), size(1, 2),
		shared(1, 30, 1, 0, 0), prots(bare(1, 31, 1), r),
	}
}

func TestLoansErrors(t *testing.T) { // P19.1, R2: those of OpLoad, and ErrNoMem behind them if most are lent already
	for _, x := range wrong {
		p := made(t, maxMost, odd()...)
		if x.want != api.OK {
			p.unchanged(t, x.what, func() { p.lends(t, x.proc, x.page, 0, x.want) })
			continue
		}
		p.lends(t, x.proc, x.page, 1, api.OK)
		p.open(t, 1)
	}
}

func TestLoansErrorsIfMostAreLent(t *testing.T) { // P19.1, R2
	for _, most := range []int{0, 1, maxMost} {
		p := made(t, most, odd()...)
		for n := range most {
			p.lends(t, 1, 0, n+1, api.OK)
		}
		for _, x := range wrong {
			want := x.want
			if want == api.OK {
				want = api.ErrNoMem
			}
			p.unchanged(t, x.what, func() { p.lends(t, x.proc, x.page, 0, want) })
			if a := p.k.Do(load(x.proc, x.page, 0)); a.Err != x.want {
				t.Errorf("%s: the load: %v, want %v", x.what, a, x.want)
			}
		}
	}
}

func TestFarNumbers(t *testing.T) { // R1, R6
	for _, most := range []int{0, 1, 9} {
		p := made(t, most, bare(1, 0, 4), bare(1, maxVPN-1, 1), prots(bare(1, maxVPN-2, 1), 0))
		last := api.OK
		if most == 0 {
			last = api.ErrNoMem
		}
		p.lends(t, 1, maxVPN-1, min(most, 1), last)
		p.lends(t, 1, maxVPN-2, 0, api.ErrAccess)
		for _, n := range far() {
			p.unchanged(t, "far", func() {
				p.lends(t, n, 0, 0, api.ErrNone)
				p.lends(t, 1, n, 0, api.ErrFault)
				p.lends(t, n, n, 0, api.ErrNone)
				p.peeks(t, "far", n, 0, 0, api.ErrNone)
				p.peeks(t, "far", n, n, 0, api.ErrNone)
				p.returns(t, n, api.ErrNone)
				if f := p.d.Frame(n); f != -1 {
					t.Errorf("Frame(%d): %d", n, f)
				}
			})
			if most > 0 {
				p.peeks(t, "far", 1, n, 0, api.ErrInval)
			}
		}
	}
}

func TestMostLentAsksNoDevice(t *testing.T) { // P19.1: it is ErrNoMem, whatever a device would do
	p := made(t, 1, bare(1, 0, 2), store(1, 0, 0, 3), store(1, 1, 0, 4), shared(1, 5, 1, 1, 0))
	p.lends(t, 1, 0, 1, api.OK)
	p.evictAll(t)
	p.k.Plan(1, 1)
	p.k.Plan(2, 1)
	p.unchanged(t, "most are lent", func() {
		p.lends(t, 1, 1, 0, api.ErrNoMem)
		p.lends(t, 1, 5, 0, api.ErrNoMem)
	})
	p.returns(t, 1, api.OK)
	p.unchanged(t, "the device fails", func() {
		p.lends(t, 1, 1, 0, api.ErrIO) // the plans have not ended ahead of these
		p.lends(t, 1, 5, 0, api.ErrIO)
	})
	p.lends(t, 1, 1, 1, api.OK)
	p.peeks(t, "read from the device", 1, 0, 4, api.OK)
}

func TestNoRoom(t *testing.T) { // P19.1: ErrNoMem of the kernel
	p := shaped(t, kern.Shape{Frames: 5, Slots: 4}, 9, []int{1}, bare(1, 0, 9), store(1, 0, 0, 7), store(1, 1, 0, 8), shared(1, 20, 1, 1, 0))
	for _, page := range []int{2, 20} {
		p.unchanged(t, "no room", func() { p.lends(t, 1, page, 0, api.ErrNoMem) })
	}
	p.lends(t, 1, 0, 1, api.OK)
	p.unchanged(t, "no room, and one is open", func() { p.lends(t, 1, 2, 0, api.ErrNoMem) })
	p.unchanged(t, "an error that comes ahead", func() { p.lends(t, 1, 10, 0, api.ErrFault) })
	p.evictAll(t)
	p.lends(t, 1, 2, 2, api.OK)
	p.unchanged(t, "no room", func() { p.lends(t, 1, 1, 0, api.ErrNoMem) })
	p.returns(t, 1, api.OK)
	p.evictAll(t)
	p.lends(t, 1, 1, 1, api.OK)
	p.peeks(t, "evicted", 1, 0, 8, api.OK)
	p.peeks(t, "noughts", 2, 0, 0, api.OK)
}

func TestPeek(t *testing.T) { // P19.1, R2
	p := made(t, 3, bare(1, 0, 2), store(1, 0, 0, 7), store(1, 0, 4095, 9), store(1, 0, 77, 255), store(1, 1, 0, 1))
	p.peeks(t, "none is open", 1, 0, 0, api.ErrNone)
	p.peeks(t, "none is open, and there is no such byte", 1, 4096, 0, api.ErrNone)
	p.lends(t, 1, 0, 1, api.OK)
	p.lends(t, 1, 1, 2, api.OK)
	tests := []struct {
		handle, at, want int
		err              api.Errno
	}{
		{1, -1, 0, api.ErrInval}, {1, 0, 7, api.OK}, {1, 1, 0, api.OK}, {1, 77, 255, api.OK}, {1, 4094, 0, api.OK}, {1, 4095, 9, api.OK}, {1, 4096, 0, api.ErrInval},
		{2, 0, 1, api.OK}, {2, 77, 0, api.OK}, {2, 4096, 0, api.ErrInval},
		{0, 0, 0, api.ErrNone}, {3, 0, 0, api.ErrNone}, {-1, 0, 0, api.ErrNone}, {3, -1, 0, api.ErrNone}, {0, 4096, 0, api.ErrNone},
	}
	for _, x := range tests {
		p.unchanged(t, "Peek", func() { p.peeks(t, "", x.handle, x.at, x.want, x.err) })
	}
	p.returns(t, 1, api.OK)
	p.peeks(t, "behind Return", 1, 0, 0, api.ErrNone)
	p.peeks(t, "of the other one", 2, 0, 1, api.OK)
	p.lends(t, 1, 1, 1, api.OK)
	p.peeks(t, "the handle is another page's", 1, 0, 1, api.OK)
}

func TestReturn(t *testing.T) { // P19.1
	p := made(t, 3, bare(1, 0, 2), store(1, 0, 0, 7), store(1, 1, 0, 8))
	p.unchanged(t, "none is open", func() { p.returns(t, 1, api.ErrNone) })
	p.lends(t, 1, 0, 1, api.OK)
	p.lends(t, 1, 1, 2, api.OK)
	p.unchanged(t, "those are not open", func() {
		p.returns(t, 0, api.ErrNone)
		p.returns(t, 3, api.ErrNone)
		p.returns(t, -1, api.ErrNone)
	})
	p.returns(t, 1, api.OK)
	p.open(t, 2)
	p.unchanged(t, "twice", func() { p.returns(t, 1, api.ErrNone) })
	p.peeks(t, "of the other one", 2, 0, 8, api.OK)
	p.returns(t, 2, api.OK)
	p.open(t)
	if n := loans(p.k); n != 0 {
		t.Errorf("frames are lent %d times", n)
	}
	p.loads(t, 1, 0, 0, 7)
	p.loads(t, 1, 1, 0, 8)
}

func TestFrame(t *testing.T) { // P19.1: the one that has the page's bytes
	p := made(t, 3, bare(1, 0, 2), store(1, 0, 0, 7), store(1, 1, 0, 8))
	leaves := p.k.View().Leaves
	p.lends(t, 1, 1, 1, api.OK)
	p.lends(t, 1, 0, 2, api.OK)
	for h, page := range map[int]int{1: 1, 2: 0} {
		if f := p.d.Frame(h); f != leaves[page].Frame {
			t.Errorf("Frame(%d): %d, want that of page %d of %+v", h, f, page, leaves)
		}
	}
	for _, h := range []int{-1, 0, 3} {
		if f := p.d.Frame(h); f != -1 {
			t.Errorf("Frame(%d): %d", h, f)
		}
	}
	f := p.d.Frame(1)
	p.all(t, store(1, 1, 0, 9), unmap(1, 0, 2))
	if g := p.d.Frame(1); g != f {
		t.Errorf("Frame(1): %d, then %d", f, g)
	}
	p.returns(t, 1, api.OK)
	if f := p.d.Frame(1); f != -1 {
		t.Errorf("Frame(1) behind Return: %d", f)
	}
}

func TestNewMemory(t *testing.T) { // R3: Handles, its spare room too
	p := made(t, 9, bare(1, 0, 1))
	for h := range 5 {
		p.lends(t, 1, 0, h+1, api.OK)
	}
	one, two := p.d.Handles(), p.d.Handles()
	for _, l := range [][]int{one, one[:cap(one)]} {
		for i := range l {
			l[i] = 77
		}
	}
	if want := []int{1, 2, 3, 4, 5}; !slices.Equal(two, want) {
		t.Errorf("Handles share memory: %v", two)
	}
	p.open(t, 1, 2, 3, 4, 5)
	p.returns(t, 3, api.OK)
	if want := []int{1, 2, 3, 4, 5}; !slices.Equal(two, want) {
		t.Errorf("Handles were kept: %v", two)
	}
}

func TestNoDesk(t *testing.T) { // R5
	var none *loan.Desk
	for what, d := range map[string]*loan.Desk{"nil": none, "a zero value": {}} {
		for _, n := range append(far(), -1, 0, 1, 2) {
			if h, err := d.Loan(n, n); h != 0 || err != api.ErrMade {
				t.Errorf("%s: Loan(%d): %d, %v", what, n, h, err)
			}
			if b, err := d.Peek(n, n); b != 0 || err != api.ErrMade {
				t.Errorf("%s: Peek(%d): %d, %v", what, n, b, err)
			}
			if err := d.Return(n); err != api.ErrMade {
				t.Errorf("%s: Return(%d): %v", what, n, err)
			}
			if f := d.Frame(n); f != -1 {
				t.Errorf("%s: Frame(%d): %d", what, n, f)
			}
		}
		if l := d.Handles(); len(l) != 0 {
			t.Errorf("%s: Handles: %v", what, l)
		}
	}
}

func TestKernelThatNoCallMade(t *testing.T) { // R5: its Lend's error
	for _, most := range []int{0, 1, maxMost} {
		d := loan.New(&kern.Kernel{}, most)
		if d == nil {
			t.Fatalf("New(.., %d): nil", most)
		}
		if h, err := d.Loan(1, 0); h != 0 || err != api.ErrMade {
			t.Errorf("Loan, with most of %d: %d, %v", most, h, err)
		}
		if b, err := d.Peek(1, 0); b != 0 || err != api.ErrNone {
			t.Errorf("Peek: %d, %v", b, err)
		}
		if err := d.Return(1); err != api.ErrNone {
			t.Errorf("Return: %v", err)
		}
		if l, f := d.Handles(), d.Frame(1); len(l) != 0 || f != -1 {
			t.Errorf("Handles: %v, Frame: %d", l, f)
		}
	}
}

func TestOnePageTwice(t *testing.T) { // P19.1, P19.2: by one process, and by two that share it
	p := made(t, 4, bare(1, 0, 1), store(1, 0, 0, 7), fork(1))
	free := p.k.Free()
	p.lends(t, 1, 0, 1, api.OK)
	p.lends(t, 1, 0, 2, api.OK)
	p.lends(t, 2, 0, 3, api.OK)
	if a, b, c := p.d.Frame(1), p.d.Frame(2), p.d.Frame(3); a != b || b != c {
		t.Errorf("one page has frames %d, %d and %d", a, b, c)
	}
	p.all(t, store(1, 0, 0, 8))
	p.lends(t, 1, 0, 4, api.OK)
	p.all(t, store(1, 0, 0, 9), store(2, 0, 0, 10))
	for h, want := range map[int]int{1: 7, 2: 7, 3: 7, 4: 8} {
		p.peeks(t, "stored", h, 0, want, api.OK)
	}
	for _, h := range []int{2, 1} {
		p.returns(t, h, api.OK)
		p.peeks(t, "one was Returned", 3, 0, 7, api.OK)
	}
	p.all(t, exit(2), exit(1))
	p.peeks(t, "all are gone", 3, 0, 7, api.OK)
	p.peeks(t, "all are gone", 4, 0, 8, api.OK)
	p.lends(t, 1, 0, 0, api.ErrNone)
	p.returns(t, 3, api.OK)
	p.returns(t, 4, api.OK)
	if n := p.k.Free(); n != frames || n <= free {
		t.Errorf("%d frames are free, want all of them", n)
	}
}

// kinds are operations behind which page 0 of process 1 has that in byte 5, and noughts else.
var kinds = []struct {
	what string
	ops  []api.Op
	want int
}{
	{"of no file", []api.Op{bare(1, 0, 2), store(1, 0, 5, 7)}, 7},
	{"without bytes", []api.Op{bare(1, 0, 2)}, 0},
	{"of a file", []api.Op{put(1, 0, 5, 7), filed(1, 0, 2, 1, 0)}, 7},
	{"of a file, stored", []api.Op{put(1, 0, 5, 3), filed(1, 0, 2, 1, 0), store(1, 0, 5, 7)}, 7},
	{"a file's", []api.Op{put(1, 0, 5, 7), sync(1), shared(1, 0, 2, 1, 0)}, 7},
	{"a file's, stored", []api.Op{shared(1, 0, 2, 1, 0), store(1, 0, 5, 7)}, 7},
	{"a region's", []api.Op{shared(1, 0, 2, 0, 0), store(1, 0, 5, 7)}, 7},
	{"a region's, without bytes", []api.Op{shared(1, 0, 2, 0, 0)}, 0},
	{"that was evicted", []api.Op{bare(1, 0, 2), store(1, 0, 5, 7)}, 7},
}

// Whatever is done behind a loan.
func deeds() [][]api.Op {
	return [][]api.Op{
		{store(1, 0, 5, 9)},
		{store(1, 0, 5, 9), store(1, 0, 5, 10), store(1, 0, 4095, 1)},
		{fork(1), store(1, 0, 5, 9), store(2, 0, 5, 10)},
		{fork(1), store(2, 0, 5, 10), exit(2), store(1, 0, 5, 9)},
		{fork(1), exit(1), store(2, 0, 5, 10), exit(2)},
		{put(1, 0, 5, 9), sync(1)},
		{store(1, 0, 5, 9), put(1, 0, 5, 10), store(1, 0, 5, 11), sync(1)},
		{size(1, 0)},
		{store(1, 0, 5, 9), size(1, 0), size(1, 3), put(1, 0, 5, 8)},
		{unmap(1, 0, 2)},
		{store(1, 0, 5, 9), unmap(1, 0, 1), bare(1, 0, 1), store(1, 0, 5, 10)},
		{exit(1)},
		{store(1, 0, 5, 9), fork(1), exit(1), exit(2)},
		{forget(1, 0, 2), store(1, 0, 5, 9)},
		{store(1, 0, 5, 9), forget(1, 0, 2)},
		{protect(1, 0, 1, 0), protect(1, 0, 1, rw), store(1, 0, 5, 9)},
		{lock(1, 0, 2), store(1, 0, 5, 9)},
		{send(1, 0, 1, 1), store(1, 0, 5, 9), store(1, 2, 5, 10)},
		{bare(1, 0, 2), store(1, 0, 5, 9)},
		{shared(1, 8, 1, 1, 0), store(1, 8, 5, 9)},
	}
}

func TestPeekStays(t *testing.T) { // P19.2: whatever is stored, evicted, unmapped and resized, and whoever exits
	for _, x := range kinds {
		for _, ops := range deeds() {
			p := made(t, 3, x.ops...)
			if x.what == "that was evicted" {
				p.evictAll(t)
			}
			p.lends(t, 1, 0, 1, api.OK)
			stays := func(behind any) {
				t.Helper()
				p.peeks(t, x.what, 1, 5, x.want, api.OK)
				p.peeks(t, x.what, 1, 0, 0, api.OK)
				p.peeks(t, x.what, 1, 4095, 0, api.OK)
				if t.Failed() {
					t.Fatalf("behind %+v", behind)
				}
			}
			stays("Loan")
			for _, o := range ops {
				p.all(t, o)
				stays(o)
				p.evictAll(t)
				stays("Evict")
			}
			p.returns(t, 1, api.OK)
			if n := loans(p.k); n != 0 {
				t.Errorf("%s, %+v: frames are lent %d times", x.what, ops, n)
			}
		}
	}
}

func TestAllReturned(t *testing.T) { // P19.2, G5
	p := made(t, maxMost, bare(1, 0, 9), shared(1, 10, 2, 1, 0), shared(1, 20, 2, 0, 0), store(1, 0, 0, 7), fork(1))
	for n := range maxMost {
		pages := []int{0, 1, 10, 11, 20, 21, 2, 3}
		p.lends(t, 1+n%2, pages[n%len(pages)], n+1, api.OK)
		p.all(t, store(1+n/2%2, pages[n*3%len(pages)], 0, n))
	}
	p.all(t, size(1, 0), exit(1), exit(2))
	for n := range maxMost {
		if got := loans(p.k); got != maxMost-n {
			t.Errorf("%d handles are open, and frames are lent %d times", maxMost-n, got)
		}
		p.returns(t, (n*27+5)%maxMost+1, api.OK)
	}
	p.open(t)
	if n := p.k.Free(); n != frames {
		t.Errorf("%d frames are free", n)
	}
}

func TestTwoDesks(t *testing.T) { // of one kernel: each has handles of its own
	p := made(t, 1, bare(1, 0, 1), store(1, 0, 0, 7))
	other := loan.New(p.k, 2)
	p.lends(t, 1, 0, 1, api.OK)
	for want := 1; want <= 2; want++ {
		if h, err := other.Loan(1, 0); h != want || err != api.OK {
			t.Errorf("Loan of another desk: %d, %v", h, err)
		}
	}
	p.returns(t, 1, api.OK)
	p.all(t, store(1, 0, 0, 8))
	if b, err := other.Peek(2, 0); b != 7 || err != api.OK {
		t.Errorf("Peek of another desk: %d, %v", b, err)
	}
	if n := loans(p.k); n != 2 {
		t.Errorf("lent %d times", n)
	}
	p.open(t)
}

func TestGivenBackByOthers(t *testing.T) { // no byte is told that is no more
	p := made(t, 1, bare(1, 0, 1), store(1, 0, 0, 7))
	p.lends(t, 1, 0, 1, api.OK)
	p.k.Back(p.d.Frame(1))
	p.peeks(t, "given back", 1, 0, 0, api.ErrNone)
	p.peeks(t, "given back", 1, -1, 0, api.ErrInval)
	p.returns(t, 1, api.OK)
	if l := p.d.Handles(); len(l) != 0 {
		t.Errorf("Handles: %v", l)
	}
}
