package flat_test

import (
	"slices"
	"testing"

	"pantry/api"
)

// dice are numbers in a row that is always the same.
type dice uint64

func (d *dice) below(n int) int {
	*d = *d*6364136223846793005 + 1442695040888963407
	return int(uint64(*d) >> 33 % uint64(n))
}

// seldom is a number that may not be, once in so many times, else the one that it is given.
func (d *dice) seldom(often, n int) int {
	if d.below(often) != 0 {
		return n
	}
	return append(far(), -1, 4096)[d.below(len(far())+2)]
}

// kind is a kind of operations: stores, loads and maps are more frequent than others.
func (d *dice) kind() int {
	likely := []int{api.OpMap, api.OpMap, api.OpMap, api.OpStore, api.OpStore, api.OpStore, api.OpStore, api.OpStore, api.OpLoad, api.OpFork, api.OpInherit, api.OpInherit, api.OpSend, api.OpAdvise, api.OpPut}
	if d.below(2) == 0 {
		return likely[d.below(len(likely))]
	}
	return d.below(22)
}

// op is any operation: most of it is near what there may be.
func (d *dice) op(procs []int) api.Op {
	const rare = 80
	proc := func() int {
		if len(procs) == 0 {
			return 1
		}
		return procs[d.below(len(procs))]
	}
	at := []int{0, 5, 4095}[d.below(3)]
	o := api.Op{
		Kind: d.kind(), Proc: d.seldom(rare, proc()), Addr: d.seldom(rare, d.below(26)), Pages: d.seldom(rare, 1+d.below(6)), Prot: d.seldom(rare, d.below(8)|rw*d.below(2)),
		Shared: d.below(3) == 0, File: d.seldom(rare, d.below(4)), Off: d.seldom(rare, d.below(4)), Fixed: d.below(2) == 0, How: d.seldom(rare, d.below(3)), At: d.seldom(rare, at),
		Value: d.seldom(rare, d.below(256)), Handle: d.seldom(rare, 1+d.below(6)), To: d.seldom(rare, proc()),
	}
	switch {
	case o.Kind == api.OpMap && o.File == 0 && d.below(9) != 0:
		o.Off = 0
	case o.Kind == api.OpAdvise:
		o.How = d.below(6)
	case o.Kind == api.OpExit && len(procs) < 4 && d.below(4) != 0:
		o.Kind = api.OpFork
	}
	return o
}

// sizesOf has the files of a long run.
func sizesOf() []int { return []int{3, 0, 5} }

func TestAgainstAModel(t *testing.T) { // P17.1, P17.2, P17.3, P17.4
	for seed := range 4 {
		d := dice(seed + 1)
		x := made(t, sizesOf())
		for step := range 2500 {
			if a := x.do(t, "in a long run", d.op(x.w.Procs())); a.Err == api.OK && len(x.m.procs) == 0 || step%600 == 599 {
				x = made(t, sizesOf()) // none is left, or too much is told apart
			}
		}
	}
}

func TestCopiesInALongRun(t *testing.T) { // P17.1: what is done to the one world changes nothing in the other
	for seed := range 3 {
		d := dice(seed + 101)
		var done []api.Op
		x := made(t, sizesOf())
		for range 600 {
			o := d.op(x.w.Procs())
			done = append(done, o)
			x.do(t, "in a long run", o)
			if d.below(40) != 0 {
				continue
			}
			y := made(t, sizesOf())
			for _, o := range done {
				y.m.do(o)
			}
			y.w = x.w.Copy()
			y.has(t, "a copy")
			for range 25 {
				y.do(t, "the copy, in a long run", d.op(y.w.Procs()))
			}
			x.has(t, "the first one, behind what was done to the copy")
		}
	}
}

func TestTheSameTwice(t *testing.T) { // R4
	var answers []api.Answer
	for range 2 {
		var list []api.Answer
		d := dice(7)
		x := made(t, sizesOf())
		for range 500 {
			o := d.op(x.w.Procs())
			list = append(list, x.w.Do(o))
		}
		if answers != nil {
			isList(t, "the same operations", list, answers)
		}
		answers = slices.Clone(list)
	}
}
