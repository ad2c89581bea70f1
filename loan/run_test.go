package loan_test

import (
	"reflect"
	"slices"
	"testing"

	"pantry/api"
	"pantry/flat"
	"pantry/kern"
)

// dice are numbers in a row that is always the same.
type dice uint64

func (d *dice) below(n int) int {
	*d = *d*6364136223846793005 + 1442695040888963407
	return int(uint64(*d) >> 33 % uint64(n))
}

// op is an operation: loans and stores are more frequent than others.
func (d *dice) op(procs []int) api.Op {
	likely := []int{
		api.OpMap, api.OpMap, api.OpMap, api.OpUnmap, api.OpProtect, api.OpInherit, api.OpAdvise, api.OpLock, api.OpUnlock, api.OpLoad, api.OpStore, api.OpStore, api.OpStore, api.OpStore,
		api.OpFork, api.OpExit, api.OpLoan, api.OpLoan, api.OpLoan, api.OpLoan, api.OpPeek, api.OpReturn, api.OpReturn, api.OpPut, api.OpPut, api.OpGet, api.OpSize, api.OpSync, api.OpSend,
	}
	proc := func() int {
		if len(procs) == 0 || d.below(60) == 0 {
			return 1 + d.below(17)
		}
		return procs[d.below(len(procs))]
	}
	o := api.Op{
		Kind: likely[d.below(len(likely))], Proc: proc(), Addr: d.below(22), Pages: 1 + d.below(5), Prot: rw, Shared: d.below(3) == 0, File: d.below(4), Off: d.below(4), Fixed: d.below(2) == 0,
		How: d.below(3), At: []int{0, 5, 4095, 4095}[d.below(4)], Value: d.below(256), To: proc(), Handle: 1 + d.below(20),
	}
	switch {
	case d.below(4) == 0:
		o.Prot = d.below(8)
	case d.below(60) == 0:
		o.Addr, o.At, o.Handle = far()[d.below(len(far()))], 4096, far()[d.below(len(far()))]
	}
	switch {
	case o.Kind == api.OpMap && o.File == 0:
		o.Off = 0
	case o.Kind == api.OpAdvise:
		o.How = d.below(5)
	case o.Kind == api.OpExit && len(procs) < 3 && d.below(5) != 0:
		o.Kind = api.OpFork
	}
	return o
}

// twin is a kernel with a desk, and the world that both are to be like.
type twin struct {
	*place
	w    *flat.World
	most int
}

// seen tells all that can be seen of a kernel's processes, files and loans, and of a world's.
func (p *twin) seen(t *testing.T, behind any) {
	t.Helper()
	handles := p.w.Handles()
	if got := p.d.Handles(); !slices.Equal(got, handles) {
		t.Fatalf("behind %+v: Handles %v, want %v", behind, got, handles)
	}
	for _, h := range handles {
		for _, at := range []int{0, 5, 4095} {
			want := p.w.Do(api.Op{Kind: api.OpPeek, Handle: h, At: at}).N
			if b, err := p.d.Peek(h, at); b != want || err != api.OK {
				t.Fatalf("behind %+v: Peek(%d, %d): %d, %v, want %d", behind, h, at, b, err, want)
			}
		}
	}
	if n := loans(p.k); n != len(handles) {
		t.Fatalf("behind %+v: frames are lent %d times, and %v are open", behind, n, handles)
	}
	for _, proc := range p.w.Procs() {
		for page := range 26 {
			b, err := p.k.Byte(proc, page, 5)
			if want, werr := p.w.Byte(proc, page, 5); b != want || err != werr {
				t.Fatalf("behind %+v: Byte(%d, %d, 5): %d, %v, want %d, %v", behind, proc, page, b, err, want, werr)
			}
		}
	}
}

// call does an operation with the kernel, or at the desk.
func (p *twin) call(o api.Op) api.Answer {
	var a api.Answer
	switch o.Kind {
	case api.OpLoan:
		a.N, a.Err = p.d.Loan(o.Proc, o.Addr)
	case api.OpPeek:
		a.N, a.Err = p.d.Peek(o.Handle, o.At)
	case api.OpReturn:
		a.Err = p.d.Return(o.Handle)
	default:
		a = p.k.Do(o)
	}
	return a
}

// do does an operation, and asks whether it answers what the world answers, or that there is no room, or that a device
// failed; it tells whether it answered that.
func (p *twin) do(t *testing.T, o api.Op) bool {
	t.Helper()
	full := o.Kind == api.OpLoan && len(p.d.Handles()) == p.most
	before := p.k.View()
	got := p.call(o)
	other := p.w.Copy()
	want := other.Do(o)
	if full && want.Err == api.OK {
		want = api.Answer{Err: api.ErrNoMem}
	} else if got == want {
		p.w = other
	}
	refused := got != want
	if refused && (full || want.Err != api.OK || got.N != 0 || got.Err != api.ErrNoMem && got.Err != api.ErrIO) {
		t.Fatalf("%+v: %+v, want %+v", o, got, want)
	}
	if o.Kind == api.OpLoan && got.Err != api.OK && !reflect.DeepEqual(p.k.View(), before) {
		t.Fatalf("%+v: %+v, and something has changed", o, got)
	}
	p.seen(t, o)
	return refused
}

// end Returns all, lets all exit, and asks whether nothing is left.
func (p *twin) end(t *testing.T) {
	t.Helper()
	for _, h := range p.d.Handles() {
		p.do(t, api.Op{Kind: api.OpReturn, Handle: h})
	}
	for _, proc := range p.w.Procs() {
		p.do(t, exit(proc))
	}
	p.all(t, size(1, 0), size(2, 0), size(3, 0))
	for n, f := range p.k.View().Frames {
		if f.Loan != 0 || f.Class != 0 {
			t.Errorf("all have gone, and frame %d is %+v", n, f)
		}
	}
}

func TestLongRuns(t *testing.T) { // P19.1, P19.2: as package flat, or no room, or a device failed
	tests := []struct {
		x    kern.Shape
		most int
	}{
		{kern.Shape{Frames: 12, Slots: 30}, 5}, {kern.Shape{Frames: 20, Slots: 40, Tlb: 3}, 9}, {kern.Shape{Frames: 40, Slots: 9, Tlb: 20}, 12},
		{kern.Shape{Frames: 256, Slots: 256, Tlb: 8}, maxMost}, {kern.Shape{Frames: 60, Slots: 60, Reserve: 9}, 1}, {kern.Shape{Frames: 30, Slots: 30}, 0},
	}
	for i, x := range tests {
		t.Run("", func(t *testing.T) {
			t.Parallel()
			if refused := longRun(t, x.x, x.most, i+1); (refused == 0) != (x.x.Frames == 256) {
				t.Errorf("%+v: %d times there was no room, or a device failed", x, refused)
			}
		})
	}
}

// longRun does long rows of operations, and tells how many of them had no room, or failed, where the world had it.
func longRun(t *testing.T, x kern.Shape, most, seed int) int {
	t.Helper()
	sizes := []int{3, 0, 5}
	d := dice(seed)
	refused := 0
	for range 5 {
		w, _ := flat.New(sizes)
		p := &twin{place: shaped(t, x, most, sizes), w: w, most: most}
		for range 250 {
			if len(p.w.Procs()) == 0 {
				break
			}
			if p.more(t, &d, x.Frames < 256) {
				p.seen(t, "Evict")
			}
			if p.do(t, d.op(p.w.Procs())) {
				refused++
			}
		}
		p.end(t)
	}
	return refused
}

// more evicts something, or plans an error, or neither.
func (p *twin) more(t *testing.T, d *dice, plans bool) bool {
	t.Helper()
	switch d.below(8) {
	case 0, 1, 2:
		if l := p.k.Resident(); len(l) > 0 {
			p.k.Evict(l[d.below(len(l))])
		}
	case 3:
		p.evictSome()
	case 4:
		if plans {
			p.k.Plan(d.below(3), d.below(4))
		}
	default:
		return false
	}
	return true
}

// evictSome evicts whatever may be.
func (p *twin) evictSome() {
	for _, frame := range p.k.Resident() {
		p.k.Evict(frame)
	}
}

func TestTheSameTwice(t *testing.T) { // R4: nothing hangs on a map's order
	var first []api.Answer
	for range 3 {
		p := &twin{place: shaped(t, kern.Shape{Frames: 16, Slots: 20, Tlb: 4}, 6, []int{3, 0, 5})}
		d := dice(5)
		var answers []api.Answer
		for range 900 {
			answers = append(answers, p.call(d.op([]int{1, 2, 3})))
			for h := range 8 {
				answers = append(answers, api.Answer{N: p.d.Frame(h)})
			}
		}
		if first == nil {
			first = answers
		}
		if !slices.Equal(answers, first) {
			t.Error("the same operations, other answers")
		}
	}
}
