package kern_test

import (
	"math"
	"reflect"
	"slices"
	"testing"

	"pantry/api"
	"pantry/flat"
	"pantry/kern"
)

const (
	maxVPN    = 1 << 26
	maxPages  = 4096
	maxProcs  = 16
	maxFiles  = 16
	maxFrames = 256
	maxSlots  = 256
	maxTlb    = 1024

	r  = api.Read
	w  = api.Write
	rw = api.Read | api.Write
)

// far has numbers that are nowhere near any page, process, file, frame, byte or kind.
func far() []int {
	return []int{-2, -maxVPN, maxVPN + 2, 2 * maxVPN, 1 << 31, 1 << 32, 1<<32 + 1, -1 << 32, 1 - 1<<32, 1 << 62, -1 << 62, math.MinInt, math.MinInt + 1, math.MaxInt, math.MaxInt - 1}
}

// with is an operation that something was done to.
func with(o api.Op, change func(*api.Op)) api.Op {
	change(&o)
	return o
}

// Operations. Pages that are mapped are read and written, at addr.

func bare(proc, addr, pages int) api.Op {
	return api.Op{Kind: api.OpMap, Proc: proc, Addr: addr, Pages: pages, Prot: rw, Fixed: true}
}

func filed(proc, addr, pages, file, off int) api.Op {
	return with(bare(proc, addr, pages), func(o *api.Op) { o.File, o.Off = file, off })
}

func shared(proc, addr, pages, file, off int) api.Op {
	return with(filed(proc, addr, pages, file, off), func(o *api.Op) { o.Shared = true })
}

func region(proc, addr, pages int) api.Op { return shared(proc, addr, pages, 0, 0) }

func prots(o api.Op, prot int) api.Op { return with(o, func(o *api.Op) { o.Prot = prot }) }

func ranged(kind, proc, lo, pages int) api.Op {
	return api.Op{Kind: kind, Proc: proc, Addr: lo, Pages: pages}
}

func unmap(proc, lo, pages int) api.Op { return ranged(api.OpUnmap, proc, lo, pages) }

func protect(proc, lo, pages, prot int) api.Op {
	return prots(ranged(api.OpProtect, proc, lo, pages), prot)
}

func inherit(proc, lo, pages, how int) api.Op {
	return with(ranged(api.OpInherit, proc, lo, pages), func(o *api.Op) { o.How = how })
}

func advise(proc, lo, pages, how int) api.Op {
	return with(ranged(api.OpAdvise, proc, lo, pages), func(o *api.Op) { o.How = how })
}

func lock(proc, lo, pages int) api.Op   { return ranged(api.OpLock, proc, lo, pages) }
func unlock(proc, lo, pages int) api.Op { return ranged(api.OpUnlock, proc, lo, pages) }

func load(proc, page, at int) api.Op {
	return api.Op{Kind: api.OpLoad, Proc: proc, Addr: page, At: at}
}

func store(proc, page, at, value int) api.Op {
	return api.Op{Kind: api.OpStore, Proc: proc, Addr: page, At: at, Value: value}
}

func fork(proc int) api.Op          { return api.Op{Kind: api.OpFork, Proc: proc} }
func exit(proc int) api.Op          { return api.Op{Kind: api.OpExit, Proc: proc} }
func get(file, page, at int) api.Op { return api.Op{Kind: api.OpGet, File: file, Off: page, At: at} }

func put(file, page, at, value int) api.Op {
	return api.Op{Kind: api.OpPut, File: file, Off: page, At: at, Value: value}
}

func size(file, pages int) api.Op { return api.Op{Kind: api.OpSize, File: file, Pages: pages} }
func sync(file int) api.Op        { return api.Op{Kind: api.OpSync, File: file} }

func send(proc, lo, pages, to int) api.Op {
	return api.Op{Kind: api.OpSend, Proc: proc, Addr: lo, Pages: pages, To: to}
}

// pair is a kernel, and the world that it is to be like.
type pair struct {
	k       *kern.Kernel
	w       *flat.World
	frames  int
	files   int
	lent    map[int][]loan // what is lent, by frames
	looks   []int          // the pages that are held against the world's
	refused bool           // whether the last operation had no room, or failed, where the world had it
}

// loan is bytes of a page as they were when it was lent.
type loan [3]int

// ats are the bytes that are asked of each page.
func ats() [3]int { return [3]int{0, 5, 4095} }

// made is a kernel in which some operations were done, all OK.
func made(t *testing.T, x kern.Shape, sizes []int, ops ...api.Op) *pair {
	t.Helper()
	k, err := kern.New(x, sizes)
	if k == nil || err != api.OK {
		t.Fatalf("New(%+v, %v): %v, %v", x, sizes, k, err)
	}
	world, err := flat.New(sizes)
	if err != api.OK {
		t.Fatal(err)
	}
	p := &pair{k: k, w: world, frames: x.Frames, files: len(sizes), lent: map[int][]loan{}}
	for page := range 32 {
		p.looks = append(p.looks, page)
	}
	p.all(t, ops...)
	return p
}

// roomy is a kernel that has room for all that the tests do.
func roomy(t *testing.T, sizes []int, ops ...api.Op) *pair {
	t.Helper()
	return made(t, kern.Shape{Frames: 64, Slots: 32, Tlb: 8}, sizes, ops...)
}

// all does operations that are OK.
func (p *pair) all(t *testing.T, ops ...api.Op) {
	t.Helper()
	for _, o := range ops {
		if a := p.do(t, o); a.Err != api.OK {
			t.Fatalf("%+v: %v", o, a)
		}
	}
}

// is does an operation that answers just so.
func (p *pair) is(t *testing.T, what string, o api.Op, n int, err api.Errno) {
	t.Helper()
	if a := p.do(t, o); a != (api.Answer{Err: err, N: n}) {
		t.Errorf("%s: %+v: %v, want %d, %v", what, o, a, n, err)
	}
}

// neverIO tells whether a kind of operations never answers that a device failed, nor that there is no room where the
// world has it.
func neverIO(kind int) bool {
	return slices.Contains([]int{api.OpUnmap, api.OpProtect, api.OpInherit, api.OpLock, api.OpUnlock, api.OpExit}, kind)
}

// do does an operation, and asks whether it answers what the world answers, or that there is no room, or that a device
// failed; and whether all that there is is right behind it.
func (p *pair) do(t *testing.T, o api.Op) api.Answer {
	t.Helper()
	got := p.k.Do(o)
	other := p.w.Copy()
	want := other.Do(o)
	p.refused = got != want
	switch {
	case got == want:
		p.w = other
	case want.Err != api.OK || got.N != 0 || got.Err != api.ErrNoMem && got.Err != api.ErrIO || neverIO(o.Kind):
		t.Fatalf("%+v: %+v, want %+v", o, got, want)
	}
	p.right(t, o)
	return got
}

// right asks whether all that there is is right, behind something that was done.
func (p *pair) right(t *testing.T, behind any) {
	t.Helper()
	v := p.k.View()
	p.same(t, behind)
	p.kept(t, behind, v)
	if wrong := counted(v, p.k.Procs(), p.k.Entries); len(wrong) > 0 {
		t.Fatalf("behind %+v: %q", behind, wrong)
	}
}

// same asks whether the kernel is like the world.
func (p *pair) same(t *testing.T, behind any) {
	t.Helper()
	procs := p.w.Procs()
	if got := p.k.Procs(); !slices.Equal(got, procs) {
		t.Fatalf("behind %+v: Procs %v, want %v", behind, got, procs)
	}
	for _, proc := range procs {
		if got, want := p.k.Entries(proc), p.w.Entries(proc); !slices.Equal(got, want) {
			t.Fatalf("behind %+v: Entries(%d) %+v, want %+v", behind, proc, got, want)
		}
		for _, page := range p.looks {
			for _, at := range ats() {
				b, err := p.k.Byte(proc, page, at)
				if wb, werr := p.w.Byte(proc, page, at); b != wb || err != werr {
					t.Fatalf("behind %+v: Byte(%d, %d, %d): %d, %v, want %d, %v", behind, proc, page, at, b, err, wb, werr)
				}
			}
		}
	}
	for file := range p.files + 2 {
		for page := range 6 {
			for _, at := range ats() {
				b, err := p.k.FileByte(file, page, at)
				if wb, werr := p.w.FileByte(file, page, at); b != wb || err != werr {
					t.Fatalf("behind %+v: FileByte(%d, %d, %d): %d, %v, want %d, %v", behind, file, page, at, b, err, wb, werr)
				}
			}
		}
	}
}

// kept asks whether what is lent has the bytes that it had.
func (p *pair) kept(t *testing.T, behind any, v kern.View) {
	t.Helper()
	for frame, f := range v.Frames {
		if f.Loan != len(p.lent[frame]) {
			t.Fatalf("behind %+v: frame %d is %+v, want %d loans", behind, frame, f, len(p.lent[frame]))
		}
		for i, at := range ats() {
			b, ok := p.k.FrameByte(frame, at)
			if ok != (f.Loan > 0) || !ok && b != 0 {
				t.Fatalf("behind %+v: FrameByte(%d, %d): %d, %v", behind, frame, at, b, ok)
			}
			for _, l := range p.lent[frame] {
				if b != l[i] {
					t.Fatalf("behind %+v: FrameByte(%d, %d): %d, want %d", behind, frame, at, b, l[i])
				}
			}
		}
	}
}

// evict evicts a frame.
func (p *pair) evict(t *testing.T, frame int) api.Errno {
	t.Helper()
	before, free, there := p.k.Resident(), p.k.Free(), slices.Contains(p.k.Resident(), frame)
	err := p.k.Evict(frame)
	p.right(t, "Evict")
	left := slices.DeleteFunc(slices.Clone(before), func(f int) bool { return err == api.OK && f == frame })
	// Tables that lead nowhere any more may go, too.
	if now := p.k.Resident(); !slices.Equal(now, left) || p.k.Free() < free+len(before)-len(left) || err != api.OK && p.k.Free() != free || (err == api.ErrNone) == there {
		t.Fatalf("Evict(%d): %v, with %d frames free, and %v Resident; then %d, and %v", frame, err, free, before, p.k.Free(), now)
	}
	return err
}

// lend lends a page.
func (p *pair) lend(t *testing.T, proc, page int) (int, api.Errno) {
	t.Helper()
	frame, err := p.k.Lend(proc, page)
	want := p.w.Copy().Do(load(proc, page, 0)).Err
	if err != want && (want != api.OK || err != api.ErrNoMem && err != api.ErrIO) || err != api.OK && frame != 0 {
		t.Fatalf("Lend(%d, %d): %d, %v, want %v", proc, page, frame, err, want)
	}
	if err == api.OK {
		var l loan
		for i, at := range ats() {
			l[i], _ = p.w.Byte(proc, page, at)
		}
		p.lent[frame] = append(p.lent[frame], l)
	}
	p.right(t, "Lend")
	return frame, err
}

// back gives a frame back that is lent, or is not.
func (p *pair) back(t *testing.T, frame int) api.Errno {
	t.Helper()
	err := p.k.Back(frame)
	if (err == api.OK) != (len(p.lent[frame]) > 0) || err != api.OK && err != api.ErrNone {
		t.Fatalf("Back(%d): %v, and %d are lent", frame, err, len(p.lent[frame]))
	}
	if err == api.OK {
		if p.lent[frame] = p.lent[frame][1:]; len(p.lent[frame]) == 0 {
			delete(p.lent, frame)
		}
	}
	p.right(t, "Back")
	return err
}

// loans tells how often frames are lent.
func (p *pair) loans() int {
	n := 0
	for _, l := range p.lent {
		n += len(l)
	}
	return n
}

// plan plans an error of a device.
func (p *pair) plan(t *testing.T, device, n int) {
	t.Helper()
	if err := p.k.Plan(device, n); err != api.OK {
		t.Fatalf("Plan(%d, %d): %v", device, n, err)
	}
}

// resident tells the one frame that is Resident.
func (p *pair) resident(t *testing.T) int {
	t.Helper()
	l := p.k.Resident()
	if len(l) != 1 {
		t.Fatalf("Resident: %v, want one", l)
	}
	return l[0]
}

// isList asks whether a list is what it is to be.
func isList[T comparable](t *testing.T, what string, got, want []T) {
	t.Helper()
	if !slices.Equal(got, want) {
		t.Errorf("%s: %v, want %v", what, got, want)
	}
}

// isView asks whether a view is what it is to be.
func isView(t *testing.T, what string, got, want kern.View) {
	t.Helper()
	if !reflect.DeepEqual(got, want) {
		t.Errorf("%s: %+v, want %+v", what, got, want)
	}
}

// frameIn tells the frame that a page of a file has in a view; -1, if it has none.
func frameIn(v kern.View, file, page int) int {
	x, ok := pageOf(v, file, page)
	if !ok {
		return -1
	}
	return x.Frame
}
