package kern

import (
	"testing"

	"pantry/api"
)

// keeping is a kernel in which operations were done, all OK.
func keeping(t *testing.T, x Shape, ops ...api.Op) *Kernel {
	t.Helper()
	k, _ := New(x, []int{2, 2})
	for _, o := range ops {
		if a := k.Do(o); a.Err != api.OK {
			t.Fatalf("%+v: %+v", o, a)
		}
	}
	return k
}

// keeps asks how many anons, amaps, objects, areas of process 1 and translations a kernel keeps.
func (k *Kernel) keeps(t *testing.T, what string, want ...int) {
	t.Helper()
	got := []int{k.anons.Len(), len(k.amaps.Ids()), len(k.objects.Ids()), 0, k.found.Len()}
	if p := k.procs[1]; p != nil {
		got[3] = len(p.areas)
	}
	for i, n := range got {
		if n != want[i] {
			t.Errorf("%s: %v are kept, want %v", what, got, want)
			return
		}
	}
}

func op(kind, proc, addr, pages int) api.Op {
	return api.Op{Kind: kind, Proc: proc, Addr: addr, Pages: pages, Prot: 3, Fixed: true}
}

func TestNothingIsKeptForNothing(t *testing.T) { // the project's rules: no more than what the promises need
	full := Shape{Frames: 4, Slots: 4, Tlb: 9}
	k := keeping(t, full, op(api.OpMap, 1, 0, 9), op(api.OpMap, 1, 20, 9), op(api.OpStore, 1, 0, 0))
	k.keeps(t, "stored", 1, 1, 0, 1, 1)
	k.Do(op(api.OpStore, 1, 20, 0))
	k.Do(op(api.OpLoad, 1, 21, 0))
	k.keeps(t, "there was no room", 1, 1, 0, 1, 1)
	k.Do(api.Op{Kind: api.OpGet, File: 1})
	k.keeps(t, "there was no room for a file's page", 1, 1, 0, 1, 1)
	o := op(api.OpAdvise, 1, 0, 9)
	o.How = api.DontNeed
	k.Do(o)
	k.keeps(t, "not needed", 0, 0, 0, 0, 0)

	k = keeping(t, Shape{Frames: 30, Slots: 4, Tlb: 9}, op(api.OpMap, 1, 0, 9))
	k.keeps(t, "mapped", 0, 0, 0, 0, 0)
	send := op(api.OpSend, 1, 0, 9)
	send.To = 1
	k.Do(send)
	k.keeps(t, "noughts that were sent", 0, 0, 0, 0, 0)
	k.Plan(2, 1)
	k.Do(api.Op{Kind: api.OpGet, File: 2})
	k.keeps(t, "a device failed", 0, 0, 0, 0, 0)
	k.Do(api.Op{Kind: api.OpGet, File: 2})
	k.keeps(t, "a file's page", 0, 0, 1, 0, 0)
	k.Evict(k.Resident()[0])
	k.keeps(t, "evicted", 0, 0, 0, 0, 0)
	k.Do(op(api.OpFork, 1, 0, 0))
	k.keeps(t, "forked", 0, 0, 0, 0, 0)
}

func TestTranslationsGo(t *testing.T) { // with what they tell
	x := Shape{Frames: 30, Slots: 4, Tlb: 9}
	build := func() *Kernel {
		return keeping(t, x, op(api.OpMap, 1, 0, 9), op(api.OpStore, 1, 0, 0), op(api.OpStore, 1, 1, 0), op(api.OpFork, 1, 0, 0), op(api.OpLoad, 1, 0, 0), op(api.OpLoad, 1, 1, 0), op(api.OpLoad, 2, 0, 0), op(api.OpLoad, 2, 1, 0))
	}
	build().keeps(t, "loaded", 2, 1, 0, 1, 4)
	tests := []struct {
		what string
		do   func(k *Kernel)
		want int
	}{
		{"unmapped", func(k *Kernel) { k.Do(op(api.OpUnmap, 1, 0, 1)) }, 3},
		{"mapped over", func(k *Kernel) { k.Do(op(api.OpMap, 2, 1, 1)) }, 3},
		{"gone", func(k *Kernel) { k.Do(op(api.OpExit, 1, 0, 0)) }, 2},
		{"protected", func(k *Kernel) { k.Do(api.Op{Kind: api.OpProtect, Proc: 1, Pages: 1}) }, 3},
		{"evicted", func(k *Kernel) { k.Evict(k.Resident()[0]) }, 2},
		{"seen", func(k *Kernel) { k.Seen(k.Resident()[0]) }, 2},
		{"lent", func(k *Kernel) { k.Lend(1, 0) }, 2},
		{"forked, and as they were", func(k *Kernel) { k.Do(op(api.OpFork, 1, 0, 0)) }, 4},
	}
	for _, x := range tests {
		k := build()
		x.do(k)
		if n := k.found.Len(); n != x.want {
			t.Errorf("%s: %d translations are kept, want %d", x.what, n, x.want)
		}
	}
}

func TestReferencesGo(t *testing.T) { // a reference to an object is there for a while alone
	k := keeping(t, Shape{Frames: 30, Slots: 4}, api.Op{Kind: api.OpGet, File: 1}, api.Op{Kind: api.OpGet, File: 1, Off: 1}, api.Op{Kind: api.OpPut, File: 2})
	for _, id := range k.objects.Ids() {
		if n, err := k.objects.Ref(id, 0); n != 0 || err != api.OK {
			t.Errorf("object %d is referred to %d times", id, n)
		}
	}
}
