package flat

import (
	"testing"

	"pantry/api"
)

// kept asks how many pages of files and regions a world keeps.
func kept(t *testing.T, what string, w *World, want int) {
	t.Helper()
	if n := len(w.files.sheets); n != want {
		t.Errorf("%s: %d pages are kept, want %d", what, n, want)
	}
}

// does does operations that are right.
func does(t *testing.T, w *World, ops ...api.Op) {
	t.Helper()
	for _, o := range ops {
		if a := w.Do(o); a.Err != api.OK {
			t.Fatalf("%+v: %v", o, a)
		}
	}
}

// holding is a world of two processes in which each page of two regions, and of a file of three pages, was stored into.
func holding(t *testing.T) *World {
	t.Helper()
	w, _ := New([]int{3})
	for k, o := range []api.Op{{Pages: 3}, {Pages: 3, File: 1}, {Pages: 3}} {
		o.Kind, o.Proc, o.Addr, o.Prot, o.Shared = api.OpMap, 1, 10*k, 3, true
		does(t, w, o)
		for page := range 3 {
			does(t, w, api.Op{Kind: api.OpStore, Proc: 1, Addr: 10*k + page, Value: 7})
		}
	}
	does(t, w, api.Op{Kind: api.OpFork, Proc: 1})
	kept(t, "all", w, 9)
	return w
}

func TestPagesOfRegionsThatNobodyHasAreNotKept(t *testing.T) { // the project's rules: no more than what the promises need
	unmap := func(proc, page, pages int) api.Op {
		return api.Op{Kind: api.OpUnmap, Proc: proc, Addr: page, Pages: pages}
	}
	w := holding(t)
	does(t, w, unmap(1, 0, 30))
	kept(t, "another process has them", w, 9)
	does(t, w, unmap(2, 1, 1))
	kept(t, "one that none has", w, 8)
	does(t, w, unmap(2, 10, 3))
	kept(t, "a file's pages stay", w, 8)
	does(t, w, api.Op{Kind: api.OpMap, Proc: 2, Addr: 19, Pages: 3, Prot: 3, Fixed: true})
	kept(t, "two that none has, as others stand there", w, 6)
	does(t, w, api.Op{Kind: api.OpExit, Proc: 2})
	kept(t, "the file's", w, 3)

	w = holding(t)
	does(t, w, api.Op{Kind: api.OpInherit, Proc: 1, Addr: 0, Pages: 2}, api.Op{Kind: api.OpFork, Proc: 1}, api.Op{Kind: api.OpExit, Proc: 2}, api.Op{Kind: api.OpExit, Proc: 1})
	kept(t, "a child's pages refer to them, shared or not", w, 9)
	does(t, w, unmap(3, 1, 25))
	kept(t, "the file's, and one", w, 4)
	does(t, w, unmap(3, 0, 1), api.Op{Kind: api.OpSize, File: 1, Pages: 1})
	kept(t, "one of the file's", w, 1)
}
