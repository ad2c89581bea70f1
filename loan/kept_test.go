package loan

import (
	"testing"

	"pantry/api"
	"pantry/kern"
)

func TestNothingIsKeptForNothing(t *testing.T) { // the project's rules: no more than what the promises need
	k, _ := kern.New(kern.Shape{Frames: 9}, nil)
	k.Do(api.Op{Kind: api.OpMap, Proc: 1, Pages: 1, Prot: 3, Fixed: true})
	d := New(k, 2)
	keeps := func(what string, want int) {
		t.Helper()
		if n := len(d.frames); n != want {
			t.Errorf("%s: %d frames are kept, want %d", what, n, want)
		}
	}
	keeps("made", 0)
	d.Loan(1, 1)
	d.Peek(1, 0)
	d.Frame(1)
	d.Return(1)
	keeps("refused", 0)
	d.Loan(1, 0)
	d.Loan(1, 0)
	d.Loan(1, 0)
	keeps("two were lent", 2)
	d.Return(1)
	keeps("one was Returned", 1)
	d.Return(2)
	keeps("all were Returned", 0)
}
