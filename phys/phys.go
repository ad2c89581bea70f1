// Package phys is layer 1: a memory of frames of 4096 bytes. See shared/doc/01-phys.md.
package phys

import (
	"pantry/api"
)

const (
	wordSize = 8
	words    = api.PageSize / wordSize
)

// frameBytes is one frame. As an array it is copied and compared as a value.
type frameBytes [api.PageSize]byte

// Memory is a row of frames. One that New did not make has none, so that each call finds nothing there.
type Memory struct {
	frames []frameBytes
}

// New makes a memory of so many frames of noughts; nil, if there may not be so many.
func New(frames int) *Memory {
	if frames < 1 || frames > api.MaxFrames {
		return nil
	}
	return &Memory{frames: make([]frameBytes, frames)}
}

// Frames tells how many frames there are.
func (m *Memory) Frames() int {
	if m == nil {
		return 0
	}
	return len(m.frames)
}

// Byte tells a byte of a frame; false, if there is no such one.
func (m *Memory) Byte(frame, at int) (byte, bool) {
	f := m.find(frame)
	if f == nil || at < 0 || at >= api.PageSize {
		return 0, false
	}
	return f[at], true
}

// SetByte stores a byte of a frame; false, if there is no such one.
func (m *Memory) SetByte(frame, at int, b byte) bool {
	f := m.find(frame)
	if f == nil || at < 0 || at >= api.PageSize {
		return false
	}
	f[at] = b
	return true
}

// Word tells the eight bytes of a frame from 8 i on, the lowest first; false, if there are no such ones.
func (m *Memory) Word(frame, i int) (uint64, bool) {
	w := m.findWord(frame, i)
	if w == nil {
		return 0, false
	}
	var v uint64
	for k, b := range w {
		v |= uint64(b) << (8 * k)
	}
	return v, true
}

// SetWord stores the eight bytes of a frame from 8 i on, the lowest first; false, if there are no such ones.
func (m *Memory) SetWord(frame, i int, v uint64) bool {
	w := m.findWord(frame, i)
	if w == nil {
		return false
	}
	for k := range w {
		w[k] = byte(v >> (8 * k))
	}
	return true
}

// Zero fills a frame with noughts; false, if there is no such one.
func (m *Memory) Zero(frame int) bool {
	f := m.find(frame)
	if f == nil {
		return false
	}
	*f = frameBytes{}
	return true
}

// Copy gives one frame the bytes of another; false, if either is none.
func (m *Memory) Copy(to, from int) bool {
	t, f := m.find(to), m.find(from)
	if t == nil || f == nil {
		return false
	}
	*t = *f
	return true
}

// Fill gives a frame the first bytes of b, and noughts behind them; false, if there is no such frame.
func (m *Memory) Fill(frame int, b []byte) bool {
	f := m.find(frame)
	if f == nil {
		return false
	}
	n := copy(f[:], b)
	clear(f[n:])
	return true
}

// Page tells the bytes of a frame, in new memory; nothing, if there is no such one.
func (m *Memory) Page(frame int) []byte {
	f := m.find(frame)
	if f == nil {
		return nil
	}
	page := *f
	return page[:]
}

// Same tells whether two frames have the same bytes; false, if either is none.
func (m *Memory) Same(a, b int) bool {
	x, y := m.find(a), m.find(b)
	if x == nil || y == nil {
		return false
	}
	return *x == *y
}

// find tells where a frame stands; nil, if there is no such one.
func (m *Memory) find(frame int) *frameBytes {
	if frame < 0 || frame >= m.Frames() {
		return nil
	}
	return &m.frames[frame]
}

// findWord tells the bytes of a word where they stand; nil, if there is no such one.
func (m *Memory) findWord(frame, i int) []byte {
	f := m.find(frame)
	// i is held to its bounds ahead of the product, which could wrap.
	if f == nil || i < 0 || i >= words {
		return nil
	}
	return f[i*wordSize : (i+1)*wordSize]
}
