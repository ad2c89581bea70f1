package flat_test

import (
	"maps"
	"slices"

	"pantry/api"
)

// cell is what a private page of the model refers to: bytes of its own that are not 0, or none.
type cell struct {
	own   bool
	bytes map[int]int
}

// leaf is one page of one process of the model.
type leaf struct {
	file, off, prot, inherit, advice int
	shared, wired                    bool
	cell                             *cell
}

// entry is what a map has of a leaf.
func (l leaf) entry(page int) api.Entry {
	return api.Entry{Start: page, End: page + 1, File: l.file, Off: l.off, Shared: l.shared, Prot: l.prot, Max: 7, Inherit: l.inherit, Advice: l.advice, Wired: l.wired}
}

// model is a world, page by page: each has a record of its own, and nothing is told in entries.
type model struct {
	sizes  []int
	pages  map[[2]int]map[int]int // of files and regions: bytes that are not 0
	procs  map[int]map[int]leaf
	loans  map[int]map[int]int
	region int
}

func newModel(sizes []int) *model {
	return &model{slices.Clone(sizes), map[[2]int]map[int]int{}, map[int]map[int]leaf{1: {}}, map[int]map[int]int{}, 1000}
}

func (m *model) isFile(file int) bool { return 1 <= file && file <= len(m.sizes) }

// gone tells whether a page of a file is not there.
func (m *model) gone(file, page int) bool {
	return m.isFile(file) && (page < 0 || m.sizes[file-1] <= page)
}

// bytes tells what a page means; false, if it is gone.
func (m *model) bytes(l leaf) (map[int]int, bool) {
	if !l.shared && l.cell.own {
		return l.cell.bytes, true
	}
	return m.pages[[2]int{l.file, l.off}], !m.gone(l.file, l.off)
}

// entries tells the entries of some pages, each of them as long as may be.
func entriesOf(pages map[int]leaf) []api.Entry {
	var list []api.Entry
	for _, page := range slices.Sorted(maps.Keys(pages)) {
		e, last := pages[page].entry(page), len(list)-1
		if last >= 0 && list[last].End == page {
			like := list[last]
			like.Start, like.End = page, page+1
			if like.File > 0 {
				like.Off += page - list[last].Start
			}
			if like == e {
				list[last].End++
				continue
			}
		}
		list = append(list, e)
	}
	return list
}

// byte is what Byte is to answer.
func (m *model) byte(proc, page, at int) (int, api.Errno) {
	l, has := m.procs[proc][page]
	b, there := m.bytes2(l, has)
	switch {
	case m.procs[proc] == nil:
		return 0, api.ErrNone
	case at < 0 || at > 4095:
		return 0, api.ErrInval
	case !there:
		return 0, api.ErrFault
	}
	return b[at], api.OK
}

func (m *model) bytes2(l leaf, has bool) (map[int]int, bool) {
	if !has {
		return nil, false
	}
	return m.bytes(l)
}

// fileByte is what FileByte is to answer.
func (m *model) fileByte(file, page, at int) (int, api.Errno) {
	switch {
	case !m.isFile(file):
		return 0, api.ErrNone
	case at < 0 || at > 4095:
		return 0, api.ErrInval
	case m.gone(file, page):
		return 0, api.ErrFault
	}
	return m.pages[[2]int{file, page}][at], api.OK
}

// space tells the lowest page from a hint on, else from 0 on, where so many pages have no entry.
func (m *model) space(proc, hint, pages int) (int, bool) {
	has := m.procs[proc]
	for _, from := range []int{max(hint, 0), 0} {
		may := []int{from}
		for page := range has {
			may = append(may, page+1)
		}
		slices.Sort(may)
		for _, at := range may {
			if at >= from && at <= maxVPN-pages && m.holes(proc, at, pages) == pages {
				return at, true
			}
		}
	}
	return 0, false
}

// holes tells how many of so many pages have no entry.
func (m *model) holes(proc, lo, pages int) int {
	n := 0
	for page := lo; page < lo+pages; page++ {
		if _, ok := m.procs[proc][page]; !ok {
			n++
		}
	}
	return n
}

// free tells the lowest number from 1 on that is not among those that rise.
func free[T any](taken map[int]T) int {
	for n := 1; ; n++ {
		if _, ok := taken[n]; !ok {
			return n
		}
	}
}

func rangeMayBe(lo, pages int) bool {
	return lo >= 0 && pages >= 1 && pages <= maxPages && lo <= maxVPN-pages
}

// do is what Do is to answer.
func (m *model) do(o api.Op) api.Answer {
	_, ok := m.procs[o.Proc]
	if (1 <= o.Kind && o.Kind <= 12 || o.Kind == 20) && !ok {
		return api.Answer{Err: api.ErrNone}
	}
	n, err := 0, api.ErrInval
	switch o.Kind {
	case api.OpMap:
		n, err = m.doMap(o)
	case api.OpUnmap, api.OpProtect, api.OpInherit, api.OpAdvise, api.OpLock, api.OpUnlock:
		err = m.doRange(o)
	case api.OpLoad, api.OpStore, api.OpLoan:
		n, err = m.doPage(o)
	case api.OpFork:
		n, err = m.doFork(o)
	case api.OpExit:
		err = api.OK
		delete(m.procs, o.Proc)
	case api.OpPeek, api.OpReturn:
		n, err = m.doHandle(o)
	case api.OpPut, api.OpGet, api.OpSize, api.OpSync:
		n, err = m.doFile(o)
	case api.OpTick:
		err = api.OK
	case api.OpSend:
		n, err = m.doSend(o)
	}
	return api.Answer{Err: err, N: n}
}

func (m *model) doMap(o api.Op) (int, api.Errno) {
	switch {
	case o.File > 0 && !m.isFile(o.File):
		return 0, api.ErrNone
	case o.File < 0, o.File == 0 && o.Off != 0, o.Off < 0, o.Pages < 1, o.Pages > maxPages, o.File > 0 && o.Off > maxPages-o.Pages, o.Prot < 0, o.Prot > 7, o.Fixed && !rangeMayBe(o.Addr, o.Pages):
		return 0, api.ErrInval
	}
	at := o.Addr
	if !o.Fixed {
		lowest, ok := m.space(o.Proc, o.Addr, o.Pages)
		if !ok {
			return 0, api.ErrNoMem
		}
		at = lowest
	}
	file := o.File
	if o.Shared && file == 0 {
		m.region++
		file = m.region
	}
	for k := range o.Pages {
		l := leaf{file: file, prot: o.Prot, shared: o.Shared, cell: &cell{}}
		if file > 0 {
			l.off = o.Off + k
		}
		if o.Shared {
			l.inherit = 1
		}
		m.procs[o.Proc][at+k] = l
	}
	return at, api.OK
}

func (m *model) doRange(o api.Op) api.Errno {
	if !rangeMayBe(o.Addr, o.Pages) ||
		o.Kind == api.OpProtect && (o.Prot < 0 || o.Prot > 7) ||
		o.Kind == api.OpInherit && (o.How < 0 || o.How > 2) ||
		o.Kind == api.OpAdvise && (o.How < 0 || o.How > 4) {
		return api.ErrInval
	}
	if o.Kind != api.OpUnmap && m.holes(o.Proc, o.Addr, o.Pages) > 0 {
		return api.ErrNoMem
	}
	for page := o.Addr; page < o.Addr+o.Pages; page++ {
		l := m.procs[o.Proc][page]
		switch o.Kind {
		case api.OpUnmap:
			delete(m.procs[o.Proc], page)
			continue
		case api.OpProtect:
			l.prot = o.Prot
		case api.OpInherit:
			l.inherit = o.How
		case api.OpAdvise:
			l.advice = o.How
			if o.How == 4 {
				*l.cell = cell{}
			}
		default:
			l.wired = o.Kind == api.OpLock
		}
		m.procs[o.Proc][page] = l
	}
	return api.OK
}

func (m *model) doPage(o api.Op) (int, api.Errno) {
	right := 1
	if o.Kind == api.OpStore {
		right = 2
	}
	if o.Kind != api.OpLoan && (o.At < 0 || o.At > 4095) || o.Kind == api.OpStore && (o.Value < 0 || o.Value > 255) {
		return 0, api.ErrInval
	}
	l, has := m.procs[o.Proc][o.Addr]
	if has && l.prot&right == 0 {
		return 0, api.ErrAccess
	}
	b, there := m.bytes2(l, has)
	if !there {
		return 0, api.ErrFault
	}
	switch o.Kind {
	case api.OpLoad:
		return b[o.At], api.OK
	case api.OpLoan:
		if len(m.loans) == 64 {
			return 0, api.ErrNoMem
		}
		n := free(m.loans)
		m.loans[n] = maps.Clone(b)
		return n, api.OK
	}
	if b = maps.Clone(b); b == nil {
		b = map[int]int{}
	}
	b[o.At] = o.Value
	if l.shared {
		m.pages[[2]int{l.file, l.off}] = b
	} else {
		*l.cell = cell{true, b}
	}
	return 0, api.OK
}

func (m *model) doFork(o api.Op) (int, api.Errno) {
	if len(m.procs) == 16 {
		return 0, api.ErrNoMem
	}
	child := map[int]leaf{}
	for page, l := range m.procs[o.Proc] {
		if l.inherit != 2 {
			l.wired = false
			child[page] = l
		}
	}
	for _, e := range entriesOf(child) {
		for page := e.Start; page < e.End; page++ {
			l := child[page]
			if e.End-e.Start > maxPages {
				delete(child, page)
			} else if l.inherit == 0 {
				c := &cell{}
				if !l.shared {
					*c = cell{l.cell.own, maps.Clone(l.cell.bytes)}
				}
				l.shared, l.cell = false, c
				child[page] = l
			}
		}
	}
	n := free(m.procs)
	m.procs[n] = child
	return n, api.OK
}

func (m *model) doHandle(o api.Op) (int, api.Errno) {
	b, ok := m.loans[o.Handle]
	switch {
	case !ok:
		return 0, api.ErrNone
	case o.Kind == api.OpReturn:
		delete(m.loans, o.Handle)
		return 0, api.OK
	case o.At < 0 || o.At > 4095:
		return 0, api.ErrInval
	}
	return b[o.At], api.OK
}

func (m *model) doFile(o api.Op) (int, api.Errno) {
	switch {
	case !m.isFile(o.File):
		return 0, api.ErrNone
	case o.Kind == api.OpSync:
		return 0, api.OK
	case o.Kind == api.OpSize:
		if o.Pages < 0 || o.Pages > maxPages {
			return 0, api.ErrInval
		}
		m.sizes[o.File-1] = o.Pages
		for at := range m.pages {
			if m.gone(at[0], at[1]) {
				delete(m.pages, at)
			}
		}
		return 0, api.OK
	case o.Kind == api.OpPut && (o.Value < 0 || o.Value > 255):
		return 0, api.ErrInval
	}
	n, err := m.fileByte(o.File, o.Off, o.At)
	if err != api.OK || o.Kind == api.OpGet {
		return n, err
	}
	at := [2]int{o.File, o.Off}
	if m.pages[at] == nil {
		m.pages[at] = map[int]int{}
	}
	m.pages[at][o.At] = o.Value
	return 0, api.OK
}

func (m *model) doSend(o api.Op) (int, api.Errno) {
	switch {
	case m.procs[o.To] == nil:
		return 0, api.ErrNone
	case !rangeMayBe(o.Addr, o.Pages):
		return 0, api.ErrInval
	case m.holes(o.Proc, o.Addr, o.Pages) > 0:
		return 0, api.ErrNoMem
	}
	var sent []*cell
	lost := false
	for page := o.Addr; page < o.Addr+o.Pages; page++ {
		l := m.procs[o.Proc][page]
		if l.prot&1 == 0 {
			return 0, api.ErrAccess
		}
		b, there := m.bytes(l)
		lost = lost || !there
		sent = append(sent, &cell{true, maps.Clone(b)})
	}
	if lost {
		return 0, api.ErrFault
	}
	at, err := m.doMap(api.Op{Proc: o.To, Addr: -1, Pages: o.Pages, Prot: 3})
	for k := 0; k < len(sent) && err == api.OK; k++ {
		*m.procs[o.To][at+k].cell = *sent[k]
	}
	return at, err
}
