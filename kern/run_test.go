package kern_test

import (
	"reflect"
	"testing"

	"pantry/api"
	"pantry/kern"
)

// dice are numbers in a row that is always the same.
type dice uint64

func (d *dice) below(n int) int {
	*d = *d*6364136223846793005 + 1442695040888963407
	return int(uint64(*d) >> 33 % uint64(n))
}

// seldom is a number that may not be, once in so many times, else the one that it is given.
func (d *dice) seldom(often, n int) int {
	if d.below(often) != 0 {
		return n
	}
	return append(far(), -1, 4096)[d.below(len(far())+2)]
}

// kind is a kind of operations: stores, loads and maps are more frequent than others.
func (d *dice) kind() int {
	likely := []int{api.OpMap, api.OpMap, api.OpStore, api.OpStore, api.OpStore, api.OpStore, api.OpStore, api.OpLoad, api.OpLoad, api.OpFork, api.OpInherit, api.OpInherit, api.OpSend, api.OpAdvise, api.OpPut, api.OpProtect}
	for {
		kind := d.below(21)
		if d.below(3) > 0 {
			kind = likely[d.below(len(likely))]
		}
		if kind < api.OpLoan || kind > api.OpReturn && kind != api.OpTick {
			return kind
		}
	}
}

// op is any operation: most of it is near what there may be.
func (d *dice) op(procs []int) api.Op {
	const rare = 80
	proc := func() int {
		if len(procs) == 0 {
			return 1
		}
		return procs[d.below(len(procs))]
	}
	at := ats()[d.below(3)]
	o := api.Op{
		Kind: d.kind(), Proc: d.seldom(rare, proc()), Addr: d.seldom(rare, d.below(26)), Pages: d.seldom(rare, 1+d.below(6)), Prot: d.seldom(rare, d.below(8)|rw*d.below(2)),
		Shared: d.below(3) == 0, File: d.seldom(rare, d.below(4)), Off: d.seldom(rare, d.below(4)), Fixed: d.below(2) == 0, How: d.seldom(rare, d.below(3)), At: d.seldom(rare, at),
		Value: d.seldom(rare, d.below(256)), To: d.seldom(rare, proc()),
	}
	switch {
	case o.Kind == api.OpMap && o.File == 0 && d.below(9) != 0:
		o.Off = 0
	case o.Kind == api.OpAdvise:
		o.How = d.below(6)
	case o.Kind == api.OpProtect && d.below(2) == 0:
		o.Prot = rw
	case o.Kind == api.OpExit && len(procs) < 4 && d.below(4) != 0:
		o.Kind = api.OpFork
	}
	return o
}

// sizesOf has the files of a long run.
func sizesOf() []int { return []int{3, 0, 5} }

// more does something, or not, that no process sees.
func (p *pair) more(t *testing.T, d *dice) {
	t.Helper()
	frame := d.seldom(60, d.below(p.frames))
	switch resident := p.k.Resident(); d.below(14) {
	case 0:
		p.evict(t, frame)
	case 1, 2, 3:
		if len(resident) > 0 {
			p.evict(t, resident[d.below(len(resident))])
		}
	case 4:
		if p.loans() < p.frames/2 {
			p.lend(t, d.seldom(60, 1+d.below(5)), d.seldom(60, d.below(26)))
		}
	case 5:
		p.back(t, frame)
	case 6, 7:
		for frame := range p.frames {
			if p.lent[frame] != nil {
				p.back(t, frame)
				break
			}
		}
	case 8:
		p.k.Seen(frame)
		p.right(t, "Seen")
	case 9:
		p.plan(t, d.below(3), d.below(4))
	}
}

// run does a long row of operations, and tells how many of them had no room, and how many failed, where the world had it.
func run(t *testing.T, x kern.Shape, seed, steps int, more bool) (int, int) {
	t.Helper()
	d := dice(seed)
	p := made(t, x, sizesOf())
	full, failed := 0, 0
	for step := range steps {
		if more {
			p.more(t, &d)
		}
		o := d.op(p.w.Procs())
		switch err := p.do(t, o); {
		case !p.refused:
		case err.Err == api.ErrNoMem:
			full++
		default:
			failed++
		}
		if len(p.w.Procs()) == 0 || step%400 == 399 {
			p = made(t, x, sizesOf())
		}
	}
	return full, failed
}

func TestLongRuns(t *testing.T) { // P18.2, P18.4, P18.5, P18.6, P18.7
	tests := []kern.Shape{
		{Frames: 8, Slots: 20}, {Frames: 14, Slots: 12, Tlb: 3}, {Frames: 30, Reserve: 6, Slots: 40, Tlb: 50}, {Frames: 64, Slots: 3, Tlb: 1},
		{Frames: 20, Tlb: 1024}, {Frames: 40, Reserve: 3, Slots: 256, Tlb: 2}, {Frames: 10, Slots: 9, Tlb: 1}, {Frames: 256, Slots: 256, Tlb: 8},
	}
	for k, x := range tests {
		t.Run("", func(t *testing.T) {
			t.Parallel()
			if full, failed := run(t, x, k+1, 1600, true); full+failed == 0 && x.Frames < maxFrames {
				t.Errorf("%+v: there was always room, and nothing failed", x)
			}
		})
	}
}

func TestWithRoomEnough(t *testing.T) { // P18.2: a long run answers just as package flat does
	for seed := range 3 {
		t.Run("", func(t *testing.T) {
			t.Parallel()
			if full, failed := run(t, kern.Shape{Frames: maxFrames, Slots: maxSlots, Tlb: 8 * seed}, seed+51, 1600, false); full+failed != 0 {
				t.Errorf("%d had no room, %d failed", full, failed)
			}
		})
	}
}

func TestTheSameWithAnyTlb(t *testing.T) { // P18.2, P18.4: all answers, Seen's too, and all that there is
	type step struct {
		a    api.Answer
		seen bool
		err  api.Errno
		free int
	}
	var first []step
	var view kern.View
	for _, size := range []int{0, 1, 2, 7, maxTlb} {
		d := dice(3)
		k, _ := kern.New(kern.Shape{Frames: 24, Slots: 30, Tlb: size}, sizesOf())
		var steps []step
		for range 4000 {
			var s step
			s.a = k.Do(d.op([]int{1, 2, 3}))
			frame := d.below(24)
			if d.below(3) == 0 {
				s.seen = k.Seen(frame)
			}
			if d.below(5) == 0 {
				s.err = k.Evict(frame)
			}
			s.free = k.Free()
			steps = append(steps, s)
		}
		if first == nil {
			first, view = steps, k.View()
		}
		isList(t, "steps", steps, first)
		if !reflect.DeepEqual(k.View(), view) {
			t.Errorf("with a tlb of %d another View", size)
		}
	}
}

func TestTheSameTwice(t *testing.T) { // R4: nothing hangs on a map's order
	var first []kern.View
	for range 3 {
		d := dice(11)
		p := made(t, kern.Shape{Frames: 16, Slots: 20, Tlb: 4}, sizesOf())
		var views []kern.View
		for range 300 {
			p.more(t, &d)
			p.do(t, d.op(p.w.Procs()))
			views = append(views, p.k.View())
		}
		if first == nil {
			first = views
		}
		if !reflect.DeepEqual(views, first) {
			t.Error("the same operations, other views")
		}
	}
}
