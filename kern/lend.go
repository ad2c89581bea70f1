package kern

import (
	"pantry/api"
	"pantry/frames"
)

// Lend makes the frame that a page means lent once more, and tells it. As long as it is lent nobody stores into it.
func (k *Kernel) Lend(proc, page int) (int, api.Errno) {
	switch {
	case !k.isMade():
		return 0, api.ErrMade
	case k.procs[proc] == nil:
		return 0, api.ErrNone
	}
	p := k.procs[proc]
	e, err := k.reach(p, api.Op{Addr: page}, api.Read, true)
	if err != api.OK {
		return 0, err
	}
	frame, err := k.toLoad(p, e, page, 0)
	if err != api.OK {
		return 0, err
	}
	if k.pool.Loan(frame, 1) != api.OK { // it is lent as often as it may be
		return 0, api.ErrNoMem
	}
	for p, page := range k.meaning(frame) {
		k.narrow(p, page, allProt&^api.Write)
	}
	return frame, api.OK
}

// Back makes a frame lent once less. One that nobody has is free when all are back.
func (k *Kernel) Back(frame int) api.Errno {
	switch {
	case !k.isMade():
		return api.ErrMade
	case !k.isLent(frame):
		return api.ErrNone
	}
	k.pool.Loan(frame, -1)
	if f, _ := k.pool.Get(frame); f.Class == frames.Loose && f.Loan == 0 {
		k.pool.Give(frame)
	}
	return api.OK
}

// FrameByte tells a byte of a frame that is lent; false, if there is none.
func (k *Kernel) FrameByte(frame, at int) (int, bool) {
	if !k.isMade() || !k.isLent(frame) || !isAt(at) {
		return 0, false
	}
	return k.byteOf(frame, at), true
}
