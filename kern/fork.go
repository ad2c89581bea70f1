package kern

import (
	"pantry/api"
)

// fork makes a child of a process, and tells its number.
func (k *Kernel) fork(p *process) (int, api.Errno) {
	if len(k.procs) >= api.MaxProcs {
		return 0, api.ErrNoMem
	}
	child, err := k.newProcess(k.lowest())
	if err != api.OK {
		return 0, err
	}
	for _, e := range p.entries.Fork().Entries() {
		if err = k.give(p, child, e); err != api.OK {
			break
		}
	}
	k.freeze() // even if nothing comes of the child, as areas may Need by then
	if err != api.OK {
		k.end(child)
		return 0, err
	}
	k.procs[child.number] = child
	return child.number, api.OK
}

// lowest tells the lowest number from 1 on that no process has.
func (k *Kernel) lowest() int {
	n := firstProc
	for k.procs[n] != nil {
		n++
	}
	return n
}

// give gives a child an entry of its parent's, and the slots that its pages have there. An entry of more pages than a
// map takes at once isn't given.
func (k *Kernel) give(p, child *process, e api.Entry) api.Errno {
	shared := e.Shared
	if e.Inherit == api.Copy {
		e.Shared = false
	}
	if _, _, err := child.entries.Map(e.Start, e, true); err != api.OK || shared {
		return api.OK
	}
	if e.Inherit == api.Share {
		return k.share(p, child, e)
	}
	return k.copy(p, child, e)
}

// share makes a child have the slots of an entry's pages, together with its parent.
func (k *Kernel) share(p, child *process, e api.Entry) api.Errno {
	p.cut(e.Start, e.End)
	for page := e.Start; page < e.End; {
		if err := k.own(p, page); err != api.OK {
			return err
		}
		a, err := k.areaAt(p, e, page)
		if err != api.OK {
			return err
		}
		k.hold(child, a)
		page = a.Hi
	}
	return api.OK
}

// copy makes a child have copies of the slots of an entry's pages. Those that its parent has alone are copied only when
// one of both is to store there.
func (k *Kernel) copy(p, child *process, e api.Entry) api.Errno {
	for _, a := range p.cut(e.Start, e.End) {
		if a.Needs || k.isSole(a) {
			a.Needs = true
			p.set(a)
			k.hold(child, a)
			continue
		}
		other, err := k.copied(a)
		if err != api.OK {
			return err
		}
		child.add(other)
	}
	return api.OK
}

// exit makes a process go.
func (k *Kernel) exit(p *process) api.Errno {
	delete(k.procs, p.number)
	k.end(p)
	k.forget(p.entries.Entries())
	return api.OK
}
