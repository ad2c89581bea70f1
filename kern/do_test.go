package kern_test

import (
	"testing"

	"pantry/api"
	"pantry/frames"
	"pantry/kern"
)

func TestNew(t *testing.T) { // P18.1
	tests := []kern.Shape{
		{Frames: 1}, {Frames: 1, Reserve: 1}, {Frames: 2, Reserve: 1, Slots: 1, Tlb: 1}, {Frames: 7, Reserve: 7}, {Frames: maxFrames, Reserve: maxFrames, Slots: maxSlots, Tlb: maxTlb},
		{Frames: maxFrames - 1, Reserve: maxFrames - 2, Slots: maxSlots - 1, Tlb: maxTlb - 1},
	}
	for _, x := range tests {
		for _, sizes := range [][]int{nil, {0}, {maxPages}, {1, 0, 5}, make([]int, maxFiles)} {
			p := made(t, x, sizes)
			p.right(t, x)
			isList(t, "Procs", p.k.Procs(), []int{1})
			isList(t, "Entries", p.k.Entries(1), nil)
			isList(t, "Resident", p.k.Resident(), nil)
			if got := p.k.Free(); got != x.Frames-1 {
				t.Errorf("Free of %+v: %d, want all but the root's", x, got)
			}
			v := p.k.View()
			isList(t, "Tables", v.Tables, []int{1})
			isList(t, "Slots", v.Slots, make([]int, x.Slots))
			if len(v.Frames) != x.Frames || v.Frames[0] != (frames.Frame{Class: frames.Table, Owner: 1}) {
				t.Errorf("Frames of %+v: %v", x, v.Frames)
			}
			for file, pages := range sizes {
				_, err := p.k.FileByte(file+1, pages-1, 0)
				_, gone := p.k.FileByte(file+1, pages, 0)
				if (err == api.OK) != (pages > 0) || gone != api.ErrFault {
					t.Errorf("file %d of %d pages: %v, %v", file+1, pages, err, gone)
				}
			}
		}
	}
}

func TestNewOfWhatMayNotBe(t *testing.T) { // P18.1
	ok := kern.Shape{Frames: 9, Reserve: 2, Slots: 4, Tlb: 3}
	change := func(do func(*kern.Shape)) kern.Shape {
		x := ok
		do(&x)
		return x
	}
	wrong := func(x kern.Shape, sizes []int) {
		t.Helper()
		if k, err := kern.New(x, sizes); k != nil || err != api.ErrInval {
			t.Errorf("New(%+v, %v): %v, %v", x, sizes, k, err)
		}
	}
	for _, n := range append(far(), -1, 0, maxFrames+1) {
		wrong(change(func(x *kern.Shape) { x.Frames, x.Reserve = n, 0 }), nil)
	}
	for _, n := range append(far(), -1, 10) {
		wrong(change(func(x *kern.Shape) { x.Reserve = n }), nil)
	}
	for _, n := range append(far(), -1, maxSlots+1) {
		wrong(change(func(x *kern.Shape) { x.Slots = n }), nil)
	}
	for _, n := range append(far(), -1, maxTlb+1) {
		wrong(change(func(x *kern.Shape) { x.Tlb = n }), nil)
	}
	for _, n := range append(far(), -1, maxPages+1) {
		wrong(ok, []int{n})
		wrong(ok, []int{3, 0, n})
	}
	wrong(ok, make([]int, maxFiles+1))
	wrong(kern.Shape{}, nil)
}

func TestNewKeepsNoSizes(t *testing.T) { // R3
	room := []int{2, 3, 7}
	sizes := room[:2]
	p := roomy(t, sizes)
	sizes[0], sizes[1] = 0, 1
	if b, err := p.k.FileByte(2, 2, 0); b != 0 || err != api.OK {
		t.Errorf("behind a change of what was handed in: %d, %v", b, err)
	}
	p.all(t, size(1, 4))
	isList(t, "sizes", room, []int{0, 1, 7})
}

func TestChaptersExample(t *testing.T) { // P18.2: three tables, four pages
	p := made(t, kern.Shape{Frames: 7, Slots: 9}, nil, with(bare(1, -1, 9), func(o *api.Op) { o.Fixed = false }))
	for page := range 4 {
		p.is(t, "there is room", store(1, page, 5, 10+page), 0, api.OK)
	}
	p.is(t, "no room", store(1, 4, 5, 14), 0, api.ErrNoMem)
	for page := 4; page < 9; page++ {
		if err := p.evict(t, p.k.Resident()[0]); err != api.OK {
			t.Errorf("Evict: %v", err)
		}
		p.is(t, "there is room", store(1, page, 5, 10+page), 0, api.OK)
	}
	isList(t, "Tables", p.k.View().Tables, []int{3})
}

// furnished is a kernel that has all kinds of pages.
func furnished(t *testing.T) *pair {
	t.Helper()
	p := made(t, kern.Shape{Frames: 128, Slots: 16, Tlb: 8}, []int{3, 0, 6},
		bare(1, 0, 6), store(1, 0, 5, 10), store(1, 1, 5, 11), store(1, 5, 5, 15),
		prots(bare(1, 6, 1), r), prots(bare(1, 7, 1), w), prots(bare(1, 8, 1), api.Exec), prots(bare(1, 9, 1), 0), store(1, 7, 0, 17),
		filed(1, 11, 4, 1, 0), put(1, 0, 5, 50), store(1, 12, 5, 51), shared(1, 16, 4, 3, 3), store(1, 16, 5, 60), region(1, 21, 3), store(1, 22, 5, 70),
		inherit(1, 4, 2, api.Share), inherit(1, 3, 1, api.None), fork(1), store(2, 0, 5, 20), store(1, 1, 5, 21), lock(1, 12, 1),
	)
	if err := p.evict(t, frameOf(p.k.View(), p.k.Entries(1), 1, 5)); err != api.OK {
		t.Fatalf("Evict: %v", err)
	}
	p.lend(t, 1, 0)
	p.lend(t, 1, 16)
	return p
}

// changes are what may be wrong with an operation: each of its fields, as it may be, or may not.
func changes() []func(*api.Op) {
	var all []func(*api.Op)
	set := func(field func(*api.Op) *int, values ...int) {
		for _, v := range append(values, -1, -1<<63, 1<<62) {
			all = append(all, func(o *api.Op) { *field(o) = v })
		}
	}
	set(func(o *api.Op) *int { return &o.Proc }, 0, 2, 3, 17)
	set(func(o *api.Op) *int { return &o.Addr }, 0, 3, 6, 7, 8, 9, 10, 11, 14, 15, 16, 19, 20, 22, 24, 40, maxVPN-1, maxVPN)
	set(func(o *api.Op) *int { return &o.Pages }, 0, 1, 9, maxPages, maxPages+1)
	set(func(o *api.Op) *int { return &o.Prot }, 0, 1, 2, 4, 7, 8)
	set(func(o *api.Op) *int { return &o.File }, 0, 1, 2, 3, 4, 1000, 1001)
	set(func(o *api.Op) *int { return &o.Off }, 0, 1, 2, 3, 5, 6, maxPages)
	set(func(o *api.Op) *int { return &o.How }, 0, 1, 2, 3, 4, 5)
	set(func(o *api.Op) *int { return &o.At }, 0, 4095, 4096)
	set(func(o *api.Op) *int { return &o.Value }, 0, 255, 256)
	set(func(o *api.Op) *int { return &o.To }, 0, 1, 2, 3)
	return append(all, func(o *api.Op) { o.Shared = !o.Shared }, func(o *api.Op) { o.Fixed = !o.Fixed })
}

// kinds are the kinds that a kernel does.
func kinds() []int {
	return []int{api.OpMap, api.OpUnmap, api.OpProtect, api.OpInherit, api.OpAdvise, api.OpLock, api.OpUnlock, api.OpLoad, api.OpStore, api.OpFork, api.OpExit, api.OpPut, api.OpGet, api.OpSize, api.OpSync, api.OpSend}
}

func TestErrorsAreFlats(t *testing.T) { // P18.2, R2: with one thing wrong, and with two, in flat's order; nothing changes
	p := furnished(t)
	before := p.k.View()
	list := changes()
	for _, kind := range kinds() {
		for i, one := range list {
			for _, two := range list[:i+1] {
				o := with(with(api.Op{Kind: kind, Proc: 1, Addr: 1, Pages: 2, Prot: rw, File: 1, To: 2}, one), two)
				want := p.w.Copy().Do(o)
				if want.Err == api.OK {
					continue
				}
				if got := p.k.Do(o); got != want {
					t.Fatalf("%+v: %+v, want %+v", o, got, want)
				}
			}
		}
		p.right(t, kind)
		isView(t, "beside errors", p.k.View(), before)
	}
}

func TestAnswersAreFlats(t *testing.T) { // P18.2: each kind, with all that may be named
	for _, kind := range kinds() {
		t.Run("", func(t *testing.T) {
			t.Parallel()
			p := furnished(t)
			for i, change := range changes() {
				for _, o := range []api.Op{{Proc: 1, Addr: 1, Pages: 2, Prot: rw, File: 1, To: 2, Value: 9}, {Proc: 1, Addr: 16, Pages: 1, Prot: r, Shared: true, File: 3, Off: 1, To: 1, Fixed: true, How: api.Share}} {
					o.Kind = kind
					p.do(t, with(o, change))
					if p.refused {
						t.Fatalf("there is no room for %+v", with(o, change))
					}
				}
				if i%20 == 19 || len(p.k.Procs()) == 0 {
					p = furnished(t)
				}
			}
		})
	}
}

func TestKindsThatAreNone(t *testing.T) { // P18.2
	p := furnished(t)
	for _, kind := range append(far(), api.OpLoan, api.OpPeek, api.OpReturn, api.OpTick, 0, -1, api.OpSend+1) {
		for _, proc := range []int{1, 2, 0, 3, -1} {
			if got := p.k.Do(api.Op{Kind: kind, Proc: proc, Addr: 1, Pages: 1, File: 1, Handle: 1}); got != (api.Answer{Err: api.ErrInval}) {
				t.Errorf("kind %d of process %d: %+v", kind, proc, got)
			}
		}
	}
	p.right(t, "kinds that are none")
}

func TestEntriesOfNone(t *testing.T) { // P18.1
	p := furnished(t)
	for _, proc := range append(far(), -1, 0, 3) {
		isList(t, "Entries of none", p.k.Entries(proc), nil)
	}
}

// spread is a kernel whose pages' bytes stand in frames, at places, in files, and nowhere: page, and where.
func spread(t *testing.T) *pair {
	t.Helper()
	p := made(t, kern.Shape{Frames: 32, Slots: 8}, []int{4},
		bare(1, 0, 4), store(1, 0, 5, 10), store(1, 1, 5, 11), load(1, 2, 0),
		region(1, 8, 3), store(1, 8, 5, 20), store(1, 9, 5, 21),
		shared(1, 12, 5, 1, 0), store(1, 12, 5, 30), store(1, 13, 5, 31), filed(1, 20, 5, 1, 0), store(1, 22, 5, 42))
	for _, page := range []int{1, 9, 13} {
		if err := p.evict(t, frameOf(p.k.View(), p.k.Entries(1), 1, page)); err != api.OK {
			t.Fatalf("Evict: %v", err)
		}
	}
	return p
}

func TestByte(t *testing.T) { // P18.2: wherever it is
	p := spread(t)
	values := map[int]int{0: 10, 1: 11, 2: 0, 3: 0, 8: 20, 9: 21, 10: 0, 12: 30, 13: 31, 14: 0, 20: 30, 21: 31, 22: 42, 23: 0}
	for page, want := range values {
		if b, err := p.k.Byte(1, page, 5); b != want || err != api.OK {
			t.Errorf("Byte of page %d: %d, %v, want %d", page, b, err, want)
		}
	}
	p.all(t, protect(1, 0, 4, 0))
	tests := []struct {
		proc, page, at int
		want           int
		err            api.Errno
	}{
		{1, 1, 5, 11, api.OK}, {1, 1, 4, 0, api.OK}, {1, 1, 0, 0, api.OK}, {1, 1, 4095, 0, api.OK},
		{0, -1, -1, 0, api.ErrNone}, {2, 1, 5, 0, api.ErrNone}, {-1, 1, 5, 0, api.ErrNone},
		{1, -1, -1, 0, api.ErrInval}, {1, 1, 4096, 0, api.ErrInval}, {1, 1, -1, 0, api.ErrInval}, {1, 16, 4096, 0, api.ErrInval},
		{1, -1, 0, 0, api.ErrFault}, {1, 4, 0, 0, api.ErrFault}, {1, 16, 5, 0, api.ErrFault}, {1, 24, 5, 0, api.ErrFault}, {1, maxVPN, 0, 0, api.ErrFault},
	}
	for _, x := range tests {
		if b, err := p.k.Byte(x.proc, x.page, x.at); b != x.want || err != x.err {
			t.Errorf("Byte(%d, %d, %d): %d, %v, want %d, %v", x.proc, x.page, x.at, b, err, x.want, x.err)
		}
	}
	for _, n := range far() {
		_, none := p.k.Byte(n, 0, 0)
		_, inval := p.k.Byte(1, 0, n)
		_, fault := p.k.Byte(1, n, 0)
		if none != api.ErrNone || inval != api.ErrInval || fault != api.ErrFault {
			t.Errorf("Byte with %d: %v, %v, %v", n, none, inval, fault)
		}
	}
}

func TestFileByte(t *testing.T) { // P18.2: wherever it is
	p := spread(t)
	tests := []struct {
		file, page, at int
		want           int
		err            api.Errno
	}{
		{1, 0, 5, 30, api.OK}, {1, 1, 5, 31, api.OK}, {1, 2, 5, 0, api.OK}, {1, 3, 4095, 0, api.OK}, {1, 0, 0, 0, api.OK},
		{0, -1, -1, 0, api.ErrNone}, {2, 0, 0, 0, api.ErrNone}, {-1, 0, 0, 0, api.ErrNone}, {1001, 0, 5, 0, api.ErrNone},
		{1, -1, -1, 0, api.ErrInval}, {1, 0, 4096, 0, api.ErrInval},
		{1, -1, 0, 0, api.ErrFault}, {1, 4, 0, 0, api.ErrFault},
	}
	for _, x := range tests {
		if b, err := p.k.FileByte(x.file, x.page, x.at); b != x.want || err != x.err {
			t.Errorf("FileByte(%d, %d, %d): %d, %v, want %d, %v", x.file, x.page, x.at, b, err, x.want, x.err)
		}
	}
	for _, n := range far() {
		_, none := p.k.FileByte(n, 0, 0)
		_, inval := p.k.FileByte(1, 0, n)
		_, fault := p.k.FileByte(1, n, 0)
		if none != api.ErrNone || inval != api.ErrInval || fault != api.ErrFault {
			t.Errorf("FileByte with %d: %v, %v, %v", n, none, inval, fault)
		}
	}
}

func TestByteChangesNothing(t *testing.T) { // P18.2: and no error is counted
	p := spread(t)
	for device := range 3 {
		p.plan(t, device, 1)
	}
	before := p.k.View()
	for page := range 26 {
		p.k.Byte(1, page, 5)
		p.k.FileByte(1, page, 5)
	}
	isView(t, "behind Byte and FileByte", p.k.View(), before)
	p.is(t, "a page at a place", load(1, 1, 5), 0, api.ErrIO)
	p.is(t, "a page in a file", load(1, 13, 5), 0, api.ErrIO)
	p.is(t, "once more", load(1, 1, 5), 11, api.OK)
	p.is(t, "once more", load(1, 13, 5), 31, api.OK)
}

func TestPlansErrors(t *testing.T) { // P18.3
	p := roomy(t, []int{1})
	tests := []struct {
		device, n int
		want      api.Errno
	}{
		{-1, 0, api.ErrInval}, {-1, -1, api.ErrInval}, {3, 0, api.ErrInval}, {3, 1, api.ErrInval},
		{0, -1, api.ErrInval}, {1, -1, api.ErrInval}, {2, -1, api.ErrInval},
		{0, 0, api.OK}, {1, 0, api.OK}, {2, 0, api.OK}, {0, 1, api.OK}, {1, 1, api.OK}, {2, 1, api.OK}, {0, 1 << 62, api.OK}, {1, 1 << 62, api.OK}, {2, 1 << 62, api.OK},
	}
	for _, x := range tests {
		if err := p.k.Plan(x.device, x.n); err != x.want {
			t.Errorf("Plan(%d, %d): %v, want %v", x.device, x.n, err, x.want)
		}
	}
	for _, n := range far() {
		if err := p.k.Plan(n, 0); err != api.ErrInval {
			t.Errorf("Plan(%d, 0): %v", n, err)
		}
	}
}

func TestPlanOfReads(t *testing.T) { // P18.3: of places, the n-th one alone
	for n := range 5 {
		p := roomy(t, nil, bare(1, 0, 4))
		for page := range 4 {
			p.all(t, store(1, page, 5, 10+page))
		}
		for range 4 {
			p.evict(t, p.k.Resident()[0])
		}
		p.plan(t, 0, 1)
		p.plan(t, 2, 1)
		p.plan(t, 1, n)
		for page := range 4 {
			if page+1 == n {
				p.is(t, "the n-th", load(1, page, 5), 0, api.ErrIO)
			}
			p.is(t, "another one", load(1, page, 5), 10+page, api.OK)
		}
	}
}

func TestPlanOfWrites(t *testing.T) { // P18.3
	for n := range 5 {
		p := roomy(t, nil, bare(1, 0, 4))
		for page := range 4 {
			p.all(t, store(1, page, 5, 10+page))
		}
		p.plan(t, 0, n)
		p.plan(t, 1, 1)
		p.plan(t, 2, 1)
		want := make([]int, 32)
		for k := range 5 {
			want[k] = 1
		}
		if n == 0 {
			want[4] = 0
		} else {
			want[n-1] = 2
		}
		for range 4 {
			if err := p.evict(t, p.k.Resident()[0]); err != api.OK {
				t.Errorf("Evict: %v", err)
			}
		}
		isList(t, "Slots", p.k.View().Slots, want)
	}
}

func TestPlanOfFileCalls(t *testing.T) { // P18.3: reads and writes together
	for n := range 5 {
		p := roomy(t, []int{4})
		p.plan(t, 0, 1)
		p.plan(t, 1, 1)
		p.plan(t, 2, n)
		call := 0
		next := func(do func() api.Errno) {
			t.Helper()
			call++
			want := api.OK
			if call == n {
				want = api.ErrIO
			}
			if err := do(); err != want {
				t.Errorf("plan %d: call %d: %v", n, call, err)
			}
			if want == api.ErrIO {
				if err := do(); err != api.OK {
					t.Errorf("plan %d: call %d once more: %v", n, call, err)
				}
			}
		}
		next(func() api.Errno { return p.do(t, get(1, 0, 5)).Err })
		next(func() api.Errno { return p.do(t, put(1, 1, 5, 7)).Err })
		next(func() api.Errno { return p.do(t, sync(1)).Err })
		p.all(t, put(1, 1, 5, 8))
		frame := frameIn(p.k.View(), 1, 1)
		next(func() api.Errno { return p.evict(t, frame) })
	}
}
