package phys_test

import (
	"bytes"
	"math"
	"testing"

	"pantry/api"
	"pantry/phys"
)

const (
	size  = api.PageSize
	words = api.PageSize / 8
)

// wrong has numbers that are below 0, or at least past (the first one past the end). Some of them fall back to a
// small number when they are multiplied by 8 or by the size of a frame.
func wrong(past int) []int {
	return []int{-1, -2, -8, -size, -1 << 60, -1 << 61, math.MinInt, past, past + 1, past * 8, 1 << 31, 1 << 32, 1 << 52, 1 << 60, 1 << 61, math.MaxInt}
}

// pattern is a page that has no nought, and is another one for each seed below 200.
func pattern(seed int) []byte {
	p := make([]byte, size)
	for i := range p {
		p[i] = byte(1 + (i*7+i/256*13+seed)%255)
	}
	return p
}

// filled is a memory whose frame f has pattern(f), set byte by byte.
func filled(t *testing.T, frames int) *phys.Memory {
	t.Helper()
	m := phys.New(frames)
	if m == nil {
		t.Fatalf("New(%d): nil", frames)
	}
	for f := range frames {
		for i, b := range pattern(f) {
			if !m.SetByte(f, i, b) {
				t.Fatalf("SetByte(%d, %d): false", f, i)
			}
		}
	}
	return m
}

// holds asks by Byte, frame by frame, whether the memory has these pages.
func holds(t *testing.T, what string, m *phys.Memory, pages ...[]byte) {
	t.Helper()
	if m.Frames() != len(pages) {
		t.Fatalf("%s: Frames: %d, want %d", what, m.Frames(), len(pages))
	}
	for f, page := range pages {
		for i, want := range page {
			if b, ok := m.Byte(f, i); b != want || !ok {
				t.Fatalf("%s: Byte(%d, %d): %d, %v, want %d, true", what, f, i, b, ok, want)
			}
		}
	}
}

// noughts is a page of noughts.
func noughts() []byte { return make([]byte, size) }

func TestNew(t *testing.T) { // P1.1
	for _, n := range []int{1, 2, 3, 255, api.MaxFrames} {
		m := phys.New(n)
		if m == nil {
			t.Fatalf("New(%d): nil", n)
		}
		want := make([][]byte, n)
		for f := range want {
			want[f] = noughts()
		}
		holds(t, "New", m, want...)
	}
	for _, n := range append(wrong(api.MaxFrames+1), 0) {
		if m := phys.New(n); m != nil {
			t.Errorf("New(%d): a memory of %d frames, want nil", n, m.Frames())
		}
	}
}

func TestNewIsApart(t *testing.T) { // P1.1
	a := filled(t, 2)
	b := phys.New(2)
	holds(t, "the second memory", b, noughts(), noughts())
	b.SetByte(0, 0, 99)
	holds(t, "the first memory", a, pattern(0), pattern(1))
}

func TestByte(t *testing.T) { // P1.1
	m := phys.New(api.MaxFrames)
	for _, f := range []int{0, 1, 128, api.MaxFrames - 1} {
		for _, at := range []int{0, 1, 2048, size - 2, size - 1} {
			b := byte(1 + (f+at)%255)
			if !m.SetByte(f, at, b) {
				t.Errorf("SetByte(%d, %d): false", f, at)
			}
			if got, ok := m.Byte(f, at); got != b || !ok {
				t.Errorf("Byte(%d, %d): %d, %v, want %d, true", f, at, got, ok, b)
			}
		}
	}
	for _, b := range []byte{255, 128, 1, 0} {
		m.SetByte(1, 7, b)
		if got, ok := m.Byte(1, 7); got != b || !ok {
			t.Errorf("Byte behind SetByte of %d: %d, %v", b, got, ok)
		}
	}
}

func TestByteThatIsNone(t *testing.T) { // P1.1
	m := filled(t, 3)
	none := func(f, at int) {
		t.Helper()
		if m.SetByte(f, at, 0) {
			t.Errorf("SetByte(%d, %d): true", f, at)
		}
		if b, ok := m.Byte(f, at); b != 0 || ok {
			t.Errorf("Byte(%d, %d): %d, %v, want 0, false", f, at, b, ok)
		}
	}
	for _, at := range wrong(size) {
		none(0, at)
		none(1, at)
		none(2, at)
	}
	for _, f := range wrong(3) {
		none(f, 0)
		none(f, size-1)
		none(f, size)
	}
	holds(t, "behind calls of no byte", m, pattern(0), pattern(1), pattern(2))
}

func TestWord(t *testing.T) { // P1.1
	m := phys.New(2)
	for _, v := range []uint64{0, 1, 255, 256, 258, 0x0102030405060708, 0xf1f2f3f4f5f6f7f8, 1 << 63, math.MaxUint64} {
		for _, i := range []int{0, 1, 255, words - 2, words - 1} {
			if !m.SetWord(1, i, v) {
				t.Errorf("SetWord(1, %d): false", i)
			}
			if got, ok := m.Word(1, i); got != v || !ok {
				t.Errorf("Word(1, %d): %x, %v, want %x, true", i, got, ok, v)
			}
		}
	}
}

func TestWordThatIsNone(t *testing.T) { // P1.1
	m := filled(t, 3)
	none := func(f, i int) {
		t.Helper()
		if m.SetWord(f, i, 0) {
			t.Errorf("SetWord(%d, %d): true", f, i)
		}
		if v, ok := m.Word(f, i); v != 0 || ok {
			t.Errorf("Word(%d, %d): %d, %v, want 0, false", f, i, v, ok)
		}
	}
	for _, i := range wrong(words) {
		none(0, i)
		none(1, i)
		none(2, i)
	}
	for _, f := range wrong(3) {
		none(f, 0)
		none(f, words-1)
		none(f, words)
	}
	holds(t, "behind calls of no word", m, pattern(0), pattern(1), pattern(2))
}

func TestZero(t *testing.T) { // P1.2
	m := filled(t, 3)
	if !m.Zero(1) {
		t.Error("Zero(1): false")
	}
	holds(t, "behind Zero(1)", m, pattern(0), noughts(), pattern(2))
	for _, f := range wrong(3) {
		if m.Zero(f) {
			t.Errorf("Zero(%d): true", f)
		}
	}
	holds(t, "behind Zero of no frame", m, pattern(0), noughts(), pattern(2))
	if !m.Zero(0) || !m.Zero(1) || !m.Zero(2) {
		t.Error("Zero of the first, of one of noughts, of the last one: false")
	}
	holds(t, "behind Zero of all", m, noughts(), noughts(), noughts())
}

func TestCopy(t *testing.T) { // P1.2
	m := filled(t, 3)
	if !m.Copy(2, 0) {
		t.Error("Copy(2, 0): false")
	}
	holds(t, "behind Copy(2, 0)", m, pattern(0), pattern(1), pattern(0))
	if !m.Copy(0, 1) {
		t.Error("Copy(0, 1): false")
	}
	holds(t, "behind Copy(0, 1)", m, pattern(1), pattern(1), pattern(0))
	if !m.Copy(2, 2) || !m.Copy(0, 0) {
		t.Error("Copy of a frame to itself: false")
	}
	holds(t, "behind Copy of frames to themselves", m, pattern(1), pattern(1), pattern(0))
}

func TestCopyOfNone(t *testing.T) { // P1.2
	m := filled(t, 2)
	for _, f := range wrong(2) {
		if m.Copy(f, 0) || m.Copy(0, f) || m.Copy(f, 1) || m.Copy(1, f) || m.Copy(f, f) {
			t.Errorf("Copy to or from %d: true", f)
		}
	}
	holds(t, "behind Copy of no frame", m, pattern(0), pattern(1))
}

func TestCopyKeepsApart(t *testing.T) { // P1.2, P1.3
	m := filled(t, 2)
	m.Copy(1, 0)
	m.SetByte(0, 5, 0)
	m.SetByte(1, 6, 0)
	first, second := pattern(0), pattern(0)
	first[5], second[6] = 0, 0
	holds(t, "stored behind Copy", m, first, second)
}

func TestFill(t *testing.T) { // P1.2
	for _, n := range []int{0, 1, 2, 2048, size - 1, size, size + 1, 2 * size, 3*size + 5} {
		m := filled(t, 3)
		b := make([]byte, n)
		for i := range b {
			b[i] = byte(1 + (i*3+i/size)%255)
		}
		want := noughts()
		copy(want, b)
		if !m.Fill(1, b) {
			t.Errorf("Fill with %d bytes: false", n)
		}
		holds(t, "behind Fill", m, pattern(0), want, pattern(2))
	}
	m := filled(t, 2)
	if !m.Fill(1, nil) {
		t.Error("Fill with nil: false")
	}
	holds(t, "behind Fill with nil", m, pattern(0), noughts())
}

func TestFillOfNone(t *testing.T) { // P1.2
	m := filled(t, 2)
	for _, f := range wrong(2) {
		if m.Fill(f, noughts()) || m.Fill(f, nil) || m.Fill(f, make([]byte, 3*size)) {
			t.Errorf("Fill(%d): true", f)
		}
	}
	holds(t, "behind Fill of no frame", m, pattern(0), pattern(1))
}

func TestFillLeavesItsArgument(t *testing.T) { // P1.2, R3
	m := filled(t, 1)
	for _, n := range []int{3, size, 2 * size} {
		room := append(pattern(4), pattern(5)...)
		kept := bytes.Clone(room)
		m.Fill(0, room[:n])
		if !bytes.Equal(room, kept) {
			t.Errorf("Fill with %d bytes changed them, or the room behind", n)
		}
		want := noughts()
		copy(want, kept[:n])
		clear(room)
		holds(t, "behind a change of what was handed in", m, want)
		for i := range size {
			m.SetByte(0, i, 200)
		}
		if !bytes.Equal(room, make([]byte, len(room))) {
			t.Errorf("SetByte behind Fill with %d bytes changed them", n)
		}
	}
}

func TestPage(t *testing.T) { // P1.2
	m := filled(t, 3)
	for f := range 3 {
		if !bytes.Equal(m.Page(f), pattern(f)) {
			t.Errorf("Page(%d): other bytes, or not %d of them", f, size)
		}
	}
	if p := phys.New(1).Page(0); !bytes.Equal(p, noughts()) {
		t.Errorf("Page of a new frame: not %d noughts", size)
	}
	for _, f := range wrong(3) {
		if p := m.Page(f); len(p) != 0 {
			t.Errorf("Page(%d): %d bytes, want none", f, len(p))
		}
	}
}

func TestPageIsNew(t *testing.T) { // P1.2, R3
	m := filled(t, 3)
	p, q := m.Page(1), m.Page(1)
	clear(p[:cap(p)])
	holds(t, "behind a change of a Page", m, pattern(0), pattern(1), pattern(2))
	if !bytes.Equal(q, pattern(1)) {
		t.Error("a change of a Page changed another one")
	}
	m.SetByte(1, 9, 0)
	m.Zero(1)
	if !bytes.Equal(q, pattern(1)) {
		t.Error("what was done to the frame changed an older Page")
	}
	_ = append(q, 77)
	holds(t, "behind an append to a Page", m, pattern(0), noughts(), pattern(2))
}

func TestSame(t *testing.T) { // P1.2
	m := phys.New(3)
	if !m.Same(0, 1) || !m.Same(1, 0) || !m.Same(2, 2) {
		t.Error("Same of noughts: false")
	}
	m = filled(t, 3)
	if !m.Same(0, 0) || !m.Same(1, 1) || !m.Same(2, 2) {
		t.Error("Same of a frame and itself: false")
	}
	if m.Same(0, 1) || m.Same(1, 0) || m.Same(0, 2) || m.Same(2, 1) {
		t.Error("Same of other bytes: true")
	}
	m.Copy(2, 0)
	if !m.Same(0, 2) || !m.Same(2, 0) {
		t.Error("Same behind Copy: false")
	}
	holds(t, "behind Same", m, pattern(0), pattern(1), pattern(0))
}

func TestSameByEachByte(t *testing.T) { // P1.2
	m := filled(t, 2)
	m.Copy(1, 0)
	for i, b := range pattern(0) {
		m.SetByte(1, i, b^128)
		if m.Same(0, 1) || m.Same(1, 0) {
			t.Fatalf("Same, where byte %d is another one: true", i)
		}
		m.SetByte(1, i, b)
		if !m.Same(0, 1) || !m.Same(1, 0) {
			t.Fatalf("Same, byte %d being put back: false", i)
		}
	}
}

func TestSameOfNone(t *testing.T) { // P1.2
	m := phys.New(2)
	for _, f := range wrong(2) {
		if m.Same(f, 0) || m.Same(1, f) || m.Same(f, f) {
			t.Errorf("Same of %d: true", f)
		}
	}
}

func TestWordIsItsBytes(t *testing.T) { // P1.3
	m := phys.New(1)
	m.SetWord(0, 1, 258)
	low, _ := m.Byte(0, 8)
	next, _ := m.Byte(0, 9)
	if low != 2 || next != 1 {
		t.Errorf("the bytes of 258: %d, %d, want 2, 1", low, next)
	}
	m = filled(t, 3)
	for _, i := range []int{0, 1, 300, words - 1} {
		want := pattern(1)
		for k := range 8 {
			want[8*i+k] = byte(0x81 + 0x0f*k)
		}
		v := uint64(0xeadbccbdae9f9081)
		if !m.SetWord(1, i, v) {
			t.Errorf("SetWord(1, %d): false", i)
		}
		holds(t, "behind SetWord", m, pattern(0), want, pattern(2))
		m.Fill(1, pattern(1))
		for k := range 8 {
			m.SetByte(1, 8*i+k, want[8*i+k])
		}
		if got, ok := m.Word(1, i); got != v || !ok {
			t.Errorf("Word(1, %d) of bytes: %x, %v, want %x, true", i, got, ok, v)
		}
		m.Fill(1, pattern(1))
	}
}

// step does one change to both a memory and plain pages; what it is hangs on r alone.
func step(m *phys.Memory, pages [][]byte, r uint32) bool {
	f, g, at, b := int(r>>4&3), int(r>>6&3), int(r>>8&4095), byte(r>>20)
	switch r % 16 {
	case 0:
		clear(pages[f])
		return m.Zero(f)
	case 1, 2:
		copy(pages[f], pages[g])
		return m.Copy(f, g)
	case 3:
		page := pattern(int(b))[:at]
		clear(pages[f])
		copy(pages[f], page)
		return m.Fill(f, page)
	case 4, 5, 6, 7, 8:
		v := uint64(r) * 0x9e3779b97f4a7c15
		for k := range 8 {
			pages[f][at&^7+k] = byte(v >> (8 * k))
		}
		return m.SetWord(f, at/8, v)
	}
	pages[f][at] = b
	return m.SetByte(f, at, b)
}

func TestFramesAreApart(t *testing.T) { // P1.3
	m := phys.New(4)
	pages := [][]byte{noughts(), noughts(), noughts(), noughts()}
	r := uint32(1)
	for n := range 3000 {
		r = r*1664525 + 1013904223
		if !step(m, pages, r^r>>16) {
			t.Fatalf("step %d: false", n)
		}
		for f := range pages {
			if !bytes.Equal(m.Page(f), pages[f]) {
				t.Fatalf("step %d: frame %d has other bytes", n, f)
			}
			if m.Same(0, f) != bytes.Equal(pages[0], pages[f]) {
				t.Fatalf("step %d: Same(0, %d) is wrong", n, f)
			}
		}
	}
	holds(t, "behind all steps", m, pages...)
}

func TestEachFrameIsAnother(t *testing.T) { // P1.3
	m := phys.New(api.MaxFrames)
	for f := range api.MaxFrames {
		m.SetWord(f, f, uint64(f+1))
	}
	for f := range api.MaxFrames {
		want := noughts()
		want[8*f], want[8*f+1] = byte(f+1), byte((f+1)>>8)
		if !bytes.Equal(m.Page(f), want) {
			t.Errorf("frame %d has other bytes than its own word", f)
		}
	}
}

func TestMemoryThatNoCallMade(t *testing.T) { // R5
	for name, m := range map[string]*phys.Memory{"nil": nil, "zero": {}} {
		for _, f := range append(wrong(1), 0) {
			set := []bool{m.SetByte(f, 0, 1), m.SetWord(f, 0, 1), m.Zero(f), m.Copy(f, f), m.Copy(0, f), m.Copy(f, 0), m.Fill(f, pattern(1)), m.Fill(f, nil), m.Same(f, f), m.Same(0, f), m.Same(f, 0)}
			for i, ok := range set {
				if ok {
					t.Errorf("%s, frame %d: call %d: true", name, f, i)
				}
			}
			if b, ok := m.Byte(f, 0); b != 0 || ok {
				t.Errorf("%s: Byte(%d, 0): %d, %v", name, f, b, ok)
			}
			if v, ok := m.Word(f, 0); v != 0 || ok {
				t.Errorf("%s: Word(%d, 0): %d, %v", name, f, v, ok)
			}
			if p := m.Page(f); len(p) != 0 {
				t.Errorf("%s: Page(%d): %d bytes", name, f, len(p))
			}
		}
		if m.Frames() != 0 {
			t.Errorf("%s: Frames: %d", name, m.Frames())
		}
	}
}
