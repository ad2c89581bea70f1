package pte_test

import (
	"math"
	"testing"

	"pantry/api"
	"pantry/pte"
)

const (
	allPPN = 1<<44 - 1
	allVPN = 1<<27 - 1
)

// odd has numbers of all sizes, below 0 too, of which each bit is set in some and not set in others.
func odd() []int {
	ns := []int{0, 1, 2, 3, 5, 255, 256, 258, 511, 512, 513, 4095, 4096, allVPN, allVPN + 1, allPPN, allPPN + 1, math.MaxInt, math.MinInt}
	for bit := range 64 {
		ns = append(ns, 1<<bit, -1<<bit, 1<<bit-1, ^(1 << bit))
	}
	return append(ns, 0x123456789abcdef, -0x123456789abcdef, 0x5555555555555555, -0x5555555555555556)
}

// bit tells one bit of a number, one of 64.
func bit(n, i int) bool { return uint64(n)>>i&1 == 1 }

// field is a number of flags, or of a frame, with the number that an entry of it alone is.
type field struct {
	n    int
	want uint64
}

func flagFields() []field {
	fs := []field{{0, 0}, {255, 255}, {256, 0}, {511, 255}, {768, 0}, {-1, 255}, {-256, 0}, {-255, 1}, {math.MinInt, 0}, {math.MaxInt, 255}}
	for _, f := range []int{api.V, api.R, api.W, api.X, api.U, api.G, api.A, api.D} {
		fs = append(fs, field{f, uint64(f)}, field{f | 256, uint64(f)}, field{f | math.MinInt, uint64(f)}, field{f - 1024, uint64(f)})
	}
	return fs
}

func frameFields() []field {
	return []field{
		{0, 0}, {1, 0x400}, {3, 0xc00}, {255, 0x3fc00}, {256, 0x40000},
		{1 << 43, 1 << 53}, {allPPN, 0x3ffffffffffc00},
		{1 << 44, 0}, {1<<44 + 1, 0x400}, {1 << 53, 0}, {1 << 54, 0}, {1<<54 + 5, 0x1400}, {1<<62 | 7, 0x1c00},
		{-1, 0x3ffffffffffc00}, {-2, 0x3ffffffffff800}, {-1 << 43, 1 << 53}, {-1 << 44, 0}, {-1<<44 + 9, 0x2400},
		{math.MinInt, 0}, {math.MaxInt, 0x3ffffffffffc00},
	}
}

func TestEncode(t *testing.T) { // P3.1
	for _, f := range flagFields() {
		for _, p := range frameFields() {
			e := api.PTE{Flags: f.n, PPN: p.n}
			if got, want := pte.Encode(e), p.want+f.want; got != want {
				t.Errorf("Encode(%+v): %#x, want %#x", e, got, want)
			}
		}
	}
	if got := pte.Encode(api.PTE{Flags: api.V | api.R, PPN: 3}); got != 3075 {
		t.Errorf("Encode of the chapter's example: %d, want 3075", got)
	}
}

func TestEncodeEachBit(t *testing.T) { // P3.1
	for i := range 64 {
		var flag, ppn uint64
		if i < 8 {
			flag = 1 << i
		}
		if i < 44 {
			ppn = 1 << (i + 10)
		}
		if got := pte.Encode(api.PTE{Flags: 1 << i}); got != flag {
			t.Errorf("Encode of bit %d of Flags: %#x, want %#x", i, got, flag)
		}
		if got := pte.Encode(api.PTE{PPN: 1 << i}); got != ppn {
			t.Errorf("Encode of bit %d of PPN: %#x, want %#x", i, got, ppn)
		}
	}
}

func TestDecode(t *testing.T) { // P3.1
	for _, c := range []struct {
		v          uint64
		flags, ppn int
	}{
		{0, 0, 0},
		{3075, api.V | api.R, 3},
		{255, 255, 0},
		{1 << 8, 0, 0},
		{1 << 9, 0, 0},
		{3<<8 | api.D, api.D, 0},
		{1 << 10, 0, 1},
		{0x3fc00, 0, 255},
		{0x40000, 0, 256},
		{1 << 53, 0, 1 << 43},
		{1 << 54, 0, 0},
		{1 << 63, 0, 0},
		{0xffc0000000000000, 0, 0},
		{0xffc0000000000300, 0, 0},
		{0xffc0000000000f4b, api.V | api.R | api.X | api.A, 3},
		{0x003ffffffffffc00, 0, allPPN},
		{math.MaxUint64, 255, allPPN},
	} {
		want := api.PTE{Flags: c.flags, PPN: c.ppn}
		if got := pte.Decode(c.v); got != want {
			t.Errorf("Decode(%#x): %+v, want %+v", c.v, got, want)
		}
	}
}

func TestDecodeEachBit(t *testing.T) { // P3.1
	for i := range 64 {
		var want api.PTE
		switch {
		case i < 8:
			want.Flags = 1 << i
		case i >= 10 && i < 54:
			want.PPN = 1 << (i - 10)
		}
		if got := pte.Decode(1 << i); got != want {
			t.Errorf("Decode of bit %d: %+v, want %+v", i, got, want)
		}
	}
}

// kinds has the Kind of each set of V, R, W and X.
func kinds() [16]int {
	return [16]int{
		api.V:                         1,
		api.V | api.R:                 2,
		api.V | api.R | api.W:         2,
		api.V | api.X:                 2,
		api.V | api.R | api.X:         2,
		api.V | api.R | api.W | api.X: 2,
		api.V | api.W:                 0,
		api.V | api.W | api.X:         0,
		api.R:                         0, api.W: 0, api.X: 0, api.R | api.X: 0, api.R | api.W | api.X: 0,
	}
}

// around has flags with the same V, R, W, X and U, and others beside them, that are no bits of an entry too.
func around(flags int) []int {
	beside := []int{0, api.G, api.A, api.D, api.G | api.A | api.D, 256, 1 << 12, 1 << 32, math.MinInt, -256, -32}
	for i, b := range beside {
		beside[i] = flags | b
	}
	return beside
}

// frameNumbers has numbers that a Kind does not hang on.
func frameNumbers() []int { return []int{0, 1, allPPN, 1 << 44, -1, math.MinInt, math.MaxInt} }

func TestKind(t *testing.T) { // P3.1
	want := kinds()
	for rights := range 32 {
		for _, flags := range around(rights) {
			for _, ppn := range frameNumbers() {
				e := api.PTE{Flags: flags, PPN: ppn}
				if got := pte.Kind(e); got != want[rights&15] {
					t.Errorf("Kind(%+v): %d, want %d", e, got, want[rights&15])
				}
			}
		}
	}
}

func TestKindOfOneFlag(t *testing.T) { // P3.1
	for _, flag := range []int{0, api.R, api.W, api.X, api.U, api.G, api.A, api.D, 256, 512, math.MinInt, -2} {
		if got := pte.Kind(api.PTE{Flags: flag}); got != 0 {
			t.Errorf("Kind of flags %d: %d, want 0", flag, got)
		}
	}
	for _, flag := range []int{api.V, api.V | api.U, api.V | api.G, api.V | api.A, api.V | api.D, api.V | 256} {
		if got := pte.Kind(api.PTE{Flags: flag}); got != 1 {
			t.Errorf("Kind of flags %d: %d, want 1", flag, got)
		}
	}
	if got := pte.Kind(api.PTE{Flags: -1}); got != 2 {
		t.Errorf("Kind of flags -1: %d, want 2", got)
	}
}

// rights has what each set of V, R, W and X lets do, as a text of r, w, x.
func rights() [16]string {
	return [16]string{
		api.V | api.R:                 "r",
		api.V | api.R | api.W:         "rw",
		api.V | api.X:                 "x",
		api.V | api.R | api.X:         "rx",
		api.V | api.R | api.W | api.X: "rwx",
	}
}

// lets tells whether a text of rights has the one that an access asks for.
func lets(text string, access int) bool {
	for _, r := range text {
		switch {
		case r == 'r' && access == api.Read, r == 'w' && access == api.Write, r == 'x' && access == api.Exec:
			return true
		}
	}
	return false
}

func TestMay(t *testing.T) { // P3.2
	texts := rights()
	for base := range 32 {
		for _, flags := range around(base) {
			for _, access := range []int{api.Read, api.Write, api.Exec} {
				for _, user := range []bool{false, true} {
					for _, ppn := range frameNumbers() {
						e := api.PTE{Flags: flags, PPN: ppn}
						want := lets(texts[base&15], access) && base >= api.U == user
						if got := pte.May(e, access, user); got != want {
							t.Errorf("May(%+v, %d, %v): %v", e, access, user, got)
						}
					}
				}
			}
		}
	}
}

func TestMayOfTheChapter(t *testing.T) { // P3.2, in numbers
	for _, c := range []struct {
		flags, access int
		user, want    bool
	}{
		{1 + 2 + 16, 1, true, true},
		{1 + 2 + 16, 1, false, false},
		{1 + 2, 1, true, false},
		{1 + 2, 1, false, true},
		{1 + 2 + 16, 2, true, false},
		{1 + 2 + 4 + 16, 2, true, true},
		{1 + 8 + 16, 4, true, true},
		{1 + 8 + 16, 1, true, false},
		{1 + 4 + 16, 2, true, false},
		{1 + 4 + 8 + 16, 4, true, false},
		{2 + 4 + 8 + 16, 1, true, false},
		{1 + 16, 1, true, false},
	} {
		if got := pte.May(api.PTE{Flags: c.flags}, c.access, c.user); got != c.want {
			t.Errorf("May of flags %d, access %d, user %v: %v", c.flags, c.access, c.user, got)
		}
	}
}

func TestMayOfNoAccess(t *testing.T) { // P3.2
	for _, access := range odd() {
		if access == api.Read || access == api.Write || access == api.Exec {
			continue
		}
		for _, flags := range []int{255, 255 &^ api.U, -1, -1 &^ api.U, api.V | api.R, api.V | api.R | api.U} {
			for _, user := range []bool{false, true} {
				if pte.May(api.PTE{Flags: flags, PPN: 1}, access, user) {
					t.Errorf("May of flags %d, access %d, user %v: true", flags, access, user)
				}
			}
		}
	}
	for _, access := range []int{0, 3, 5, 6, 7, 8, 9, -1, -2, -4} {
		if pte.May(api.PTE{Flags: 255}, access, true) {
			t.Errorf("May of access %d: true", access)
		}
	}
}

// flagsOf has the Flags of each prot, without U.
func flagsOf() [8]int {
	return [8]int{0, 1 + 2, 1 + 2 + 4, 1 + 2 + 4, 1 + 8, 1 + 2 + 8, 1 + 2 + 4 + 8, 1 + 2 + 4 + 8}
}

func TestFlags(t *testing.T) { // P3.2
	table := flagsOf()
	for prot, want := range table {
		if got := pte.Flags(prot, false); got != want {
			t.Errorf("Flags(%d, false): %d, want %d", prot, got, want)
		}
		if want != 0 {
			want += 16
		}
		if got := pte.Flags(prot, true); got != want {
			t.Errorf("Flags(%d, true): %d, want %d", prot, got, want)
		}
	}
}

func TestFlagsOfMoreBits(t *testing.T) { // P3.2
	for prot := range 8 {
		for _, more := range []int{8, 16, 24, 64, 248, 1 << 31, 1 << 32, 1 << 62, math.MinInt, -8, -1 << 40} {
			for _, user := range []bool{false, true} {
				if got, want := pte.Flags(prot|more, user), pte.Flags(prot, user); got != want {
					t.Errorf("Flags(%d, %v): %d, want %d", prot|more, user, got, want)
				}
			}
		}
	}
	for prot, want := range map[int]int{-1: 15, -2: 15, -3: 11, -4: 9, -5: 7, -6: 7, -7: 3, -8: 0, 8: 0, 16: 0, 256: 0} {
		if got := pte.Flags(prot, false); got != want {
			t.Errorf("Flags(%d, false): %d, want %d", prot, got, want)
		}
	}
}

func TestProt(t *testing.T) { // P3.2
	want := [16]int{1 + 2: 1, 1 + 2 + 4: 3, 1 + 8: 4, 1 + 2 + 8: 5, 1 + 2 + 4 + 8: 7}
	for base := range 32 {
		for _, flags := range around(base) {
			for _, ppn := range frameNumbers() {
				e := api.PTE{Flags: flags, PPN: ppn}
				if got := pte.Prot(e); got != want[base&15] {
					t.Errorf("Prot(%+v): %d, want %d", e, got, want[base&15])
				}
			}
		}
	}
	for flags, want := range map[int]int{-1: 7, -2: 0, 255: 7, 254: 0, 256: 0, math.MinInt: 0, math.MaxInt: 7} {
		if got := pte.Prot(api.PTE{Flags: flags}); got != want {
			t.Errorf("Prot of flags %d: %d, want %d", flags, got, want)
		}
	}
}

func TestFlagsAndProt(t *testing.T) { // P3.2
	for prot, want := range [8]int{0, 1, 3, 3, 4, 5, 7, 7} { // Write has Read beside it
		for _, user := range []bool{false, true} {
			e := api.PTE{Flags: pte.Flags(prot, user), PPN: 9}
			if got := pte.Prot(e); got != want {
				t.Errorf("Prot of Flags(%d, %v): %d, want %d", prot, user, got, want)
			}
			for _, access := range []int{api.Read, api.Write, api.Exec} {
				if got := pte.May(e, access, user); got != (want&access != 0) {
					t.Errorf("May of Flags(%d, %v), access %d: %v", prot, user, access, got)
				}
				if pte.May(e, access, !user) {
					t.Errorf("May of Flags(%d, %v), access %d, the other one: true", prot, user, access)
				}
			}
		}
	}
}

func TestIndex(t *testing.T) { // P3.3
	for _, c := range []struct{ vpn, i2, i1, i0 int }{
		{0, 0, 0, 0},
		{1, 0, 0, 1},
		{511, 0, 0, 511},
		{512, 0, 1, 0},
		{517, 0, 1, 5},
		{1<<18 - 1, 0, 511, 511},
		{1 << 18, 1, 0, 0},
		{3<<18 + 2<<9 + 1, 3, 2, 1},
		{api.MaxVPN - 1, 255, 511, 511},
		{api.MaxVPN, 256, 0, 0},
		{allVPN, 511, 511, 511},
		{allVPN + 1, 0, 0, 0},
		{allVPN + 2, 0, 0, 1},
		{1<<36 + 1<<27 + 517, 0, 1, 5},
		{math.MaxInt, 511, 511, 511},
		{-1, 511, 511, 511},
		{-2, 511, 511, 510},
		{-512, 511, 511, 0},
		{-513, 511, 510, 511},
		{-1 << 18, 511, 0, 0},
		{-1 << 26, 256, 0, 0},
		{-1 << 27, 0, 0, 0},
		{-1<<27 + 517, 0, 1, 5},
		{-1<<27 - 1, 511, 511, 511},
		{math.MinInt, 0, 0, 0},
		{math.MinInt + 517, 0, 1, 5},
	} {
		for level, want := range []int{c.i0, c.i1, c.i2} {
			if got := pte.Index(c.vpn, level); got != want {
				t.Errorf("Index(%d, %d): %d, want %d", c.vpn, level, got, want)
			}
		}
	}
}

func TestIndexEachBit(t *testing.T) { // P3.3
	for i := range 64 {
		for level := range 3 {
			want := 0
			if i/9 == level {
				want = 1 << (i % 9)
			}
			if got := pte.Index(1<<i, level); got != want {
				t.Errorf("Index of bit %d, level %d: %d, want %d", i, level, got, want)
			}
		}
	}
}

func TestIndexOfNoLevel(t *testing.T) { // P3.3
	for _, level := range odd() {
		if level >= 0 && level <= 2 {
			continue
		}
		for _, vpn := range []int{0, 1, 517, allVPN, allVPN + 1, -1, -512, math.MinInt, math.MaxInt} {
			if got := pte.Index(vpn, level); got != 0 {
				t.Errorf("Index(%d, %d): %d, want 0", vpn, level, got)
			}
		}
	}
}

func TestJoin(t *testing.T) { // P3.3
	for _, c := range []struct{ i2, i1, i0, want int }{
		{0, 0, 0, 0},
		{0, 0, 1, 1},
		{0, 1, 0, 512},
		{1, 0, 0, 1 << 18},
		{0, 1, 5, 517},
		{3, 2, 1, 3<<18 + 2<<9 + 1},
		{255, 511, 511, api.MaxVPN - 1},
		{256, 0, 0, api.MaxVPN},
		{511, 511, 511, allVPN},
		{512, 512, 512, 0},
		{0, 0, 512, 0},
		{0, 512, 0, 0},
		{512, 0, 0, 0},
		{513, 1024 + 2, 2048 + 3, 1<<18 + 2<<9 + 3},
		{0, 0, 1 << 18, 0},
		{-1, 0, 0, 511 << 18},
		{0, -1, 0, 511 << 9},
		{0, 0, -1, 511},
		{-1, -1, -1, allVPN},
		{-512, -511, -510, 1<<9 + 2},
		{math.MinInt, math.MinInt, math.MinInt, 0},
		{math.MaxInt, math.MaxInt, math.MaxInt, allVPN},
	} {
		if got := pte.Join(c.i2, c.i1, c.i0); got != c.want {
			t.Errorf("Join(%d, %d, %d): %d, want %d", c.i2, c.i1, c.i0, got, c.want)
		}
	}
}

func TestJoinEachBit(t *testing.T) { // P3.3
	for i := range 64 {
		want := 0
		if i < 9 {
			want = 1 << i
		}
		if got := pte.Join(0, 0, 1<<i); got != want {
			t.Errorf("Join of bit %d of level 0: %d, want %d", i, got, want)
		}
		if got := pte.Join(0, 1<<i, 0); got != want<<9 {
			t.Errorf("Join of bit %d of level 1: %d, want %d", i, got, want<<9)
		}
		if got := pte.Join(1<<i, 0, 0); got != want<<18 {
			t.Errorf("Join of bit %d of level 2: %d, want %d", i, got, want<<18)
		}
	}
}

func TestSplit(t *testing.T) { // P3.3
	for _, c := range []struct{ va, vpn, at int }{
		{0, 0, 0},
		{1, 0, 1},
		{4095, 0, 4095},
		{4096, 1, 0},
		{5*4096 + 7, 5, 7},
		{5*4096 + 4095, 5, 4095},
		{6 * 4096, 6, 0},
		{1<<38 - 1, 1<<26 - 1, 4095},
		{1<<38 - 4096, 1<<26 - 1, 0},
		{1 << 38, 1 << 26, 0},
		{1<<39 - 1, allVPN, 4095},
		{1 << 39, 0, 0},
		{1<<39 + 4097, 1, 1},
		{-1, allVPN, 4095},
		{-4096, allVPN, 0},
		{-4097, allVPN - 1, 4095},
		{-1 << 38, 1 << 26, 0},
		{-1<<38 - 1, 1<<26 - 1, 4095},
		{-1 << 39, 0, 0},
		{math.MinInt, 0, 0},
		{math.MinInt + 4096 + 9, 1, 9},
		{math.MaxInt, allVPN, 4095},
	} {
		if vpn, at := pte.Split(c.va); vpn != c.vpn || at != c.at {
			t.Errorf("Split(%d): %d, %d, want %d, %d", c.va, vpn, at, c.vpn, c.at)
		}
	}
}

func TestSplitEachBit(t *testing.T) { // P3.3
	for i := range 64 {
		var vpn, at int
		switch {
		case i < 12:
			at = 1 << i
		case i < 39:
			vpn = 1 << (i - 12)
		}
		if v, a := pte.Split(1 << i); v != vpn || a != at {
			t.Errorf("Split of bit %d: %d, %d, want %d, %d", i, v, a, vpn, at)
		}
	}
}

func TestCanonical(t *testing.T) { // P3.3
	for va, want := range map[int]bool{
		0:              true,
		1:              true,
		4095:           true,
		4096:           true,
		1 << 37:        true,
		1<<38 - 1:      true,
		1 << 38:        false,
		1<<38 + 1:      false,
		1<<39 - 1:      false,
		1 << 39:        false,
		1 << 40:        false,
		1 << 62:        false,
		math.MaxInt:    false,
		-1:             true,
		-4096:          true,
		-1<<38 + 1:     true,
		-1 << 38:       true,
		-1<<38 - 1:     false,
		-1 << 39:       false,
		-1<<39 - 1:     false,
		-1 << 62:       false,
		math.MinInt:    false,
		-1 ^ (1 << 50): false,
	} {
		if got := pte.Canonical(va); got != want {
			t.Errorf("Canonical(%d): %v, want %v", va, got, want)
		}
	}
}

func TestCanonicalByBits(t *testing.T) { // P3.3
	for _, va := range odd() {
		want := true
		for i := 39; i < 64; i++ {
			want = want && bit(va, i) == bit(va, 38)
		}
		if got := pte.Canonical(va); got != want {
			t.Errorf("Canonical(%d): %v, want %v", va, got, want)
		}
	}
}

func TestDecodeUndoesEncode(t *testing.T) { // P3.4
	for flags := range 256 {
		for _, ppn := range []int{0, 1, 3, 255, 256, 0x123456789ab, allPPN - 1, allPPN} {
			e := api.PTE{Flags: flags, PPN: ppn}
			if got := pte.Decode(pte.Encode(e)); got != e {
				t.Errorf("Decode of Encode of %+v: %+v", e, got)
			}
		}
	}
	for _, n := range odd() { // what has no room is gone, and nothing else
		want := api.PTE{Flags: int(uint64(n) % 256), PPN: int(uint64(n) % (1 << 44))}
		if got := pte.Decode(pte.Encode(api.PTE{Flags: n, PPN: n})); got != want {
			t.Errorf("Decode of Encode of Flags and PPN %d: %+v, want %+v", n, got, want)
		}
	}
}

func TestEncodeUndoesDecode(t *testing.T) { // P3.4
	for _, n := range odd() {
		v := uint64(n)
		want := v &^ (3<<8 | 1023<<54)
		if got := pte.Encode(pte.Decode(v)); got != want {
			t.Errorf("Encode of Decode of %#x: %#x, want %#x", v, got, want)
		}
	}
}

func TestJoinUndoesIndex(t *testing.T) { // P3.4
	for _, vpn := range odd() {
		want := int(uint64(vpn) % (1 << 27))
		if got := pte.Join(pte.Index(vpn, 2), pte.Index(vpn, 1), pte.Index(vpn, 0)); got != want {
			t.Errorf("Join of the indexes of %d: %d, want %d", vpn, got, want)
		}
	}
	for vpn := 0; vpn <= allVPN; vpn += 9973 {
		if got := pte.Join(pte.Index(vpn, 2), pte.Index(vpn, 1), pte.Index(vpn, 0)); got != vpn {
			t.Errorf("Join of the indexes of %d: %d", vpn, got)
		}
	}
}

func TestIndexUndoesJoin(t *testing.T) { // P3.4
	for n := range 512 {
		i2, i1, i0 := n, (n*7+3)%512, (n*31+100)%512
		vpn := pte.Join(i2, i1, i0)
		for level, want := range []int{i0, i1, i2} {
			if got := pte.Index(vpn, level); got != want {
				t.Errorf("Index(Join(%d, %d, %d), %d): %d", i2, i1, i0, level, got)
			}
		}
	}
}

func TestSplitPutTogether(t *testing.T) { // P3.3, P3.4
	for _, va := range odd() {
		vpn, at := pte.Split(va)
		if got, want := vpn*api.PageSize+at, int(uint64(va)%(1<<39)); got != want {
			t.Errorf("Split(%d), put together: %d, want %d", va, got, want)
		}
	}
}
