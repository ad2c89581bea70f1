package flat

import (
	"maps"
	"slices"

	"pantry/api"
)

const noFile = 0

// spot is where a page of a file, or of a region, stands.
type spot struct{ file, page int }

// files are the pages of files, and those of regions. What is not there has noughts.
type files struct {
	sizes  []int // file 1's is the first one
	sheets map[spot]*sheet
}

// has tells whether there is such a file; a region is none.
func (f files) has(file int) bool { return file > noFile && file <= len(f.sizes) }

// find tells what stands at a spot; false, if that is gone. Of no file noughts stand there, as nothing is kept of none.
func (f files) find(s spot) (*sheet, bool) {
	if f.has(s.file) && (s.page < 0 || s.page >= f.sizes[s.file-1]) {
		return nil, false
	}
	return f.sheets[s], true
}

// resize makes a file have so many pages. Those that are cut off are kept no more, so that they have noughts if they come
// again.
func (f files) resize(file, pages int) {
	for page := pages; page < f.sizes[file-1]; page++ {
		delete(f.sheets, spot{file, page})
	}
	f.sizes[file-1] = pages
}

func (f files) copied() files { return files{slices.Clone(f.sizes), maps.Clone(f.sheets)} }

// get tells a byte of a file.
func (w *World) get(o api.Op) (int, api.Errno) {
	b, err := w.ofFile(o, isAt(o.At))
	return b.at(o.At), err
}

// put makes a byte of a file have a value.
func (w *World) put(o api.Op) api.Errno {
	b, err := w.ofFile(o, isAt(o.At) && isByte(o.Value))
	if err == api.OK {
		w.files.sheets[spot{o.File, o.Off}] = b.with(o.At, o.Value)
	}
	return err
}

// ofFile tells what stands at the page of a file that an operation names, if what the operation asks for may be.
func (w *World) ofFile(o api.Op, may bool) (*sheet, api.Errno) {
	switch {
	case !w.files.has(o.File):
		return nil, api.ErrNone
	case !may:
		return nil, api.ErrInval
	}
	b, ok := w.files.find(spot{o.File, o.Off})
	if !ok {
		return nil, api.ErrFault
	}
	return b, api.OK
}

// size makes a file have so many pages.
func (w *World) size(o api.Op) api.Errno {
	switch {
	case !w.files.has(o.File):
		return api.ErrNone
	case !maySize(o.Pages):
		return api.ErrInval
	}
	w.files.resize(o.File, o.Pages)
	return api.OK
}

// sync has nothing to do but to look: what a file means stands in it at once.
func (w *World) sync(o api.Op) api.Errno {
	if !w.files.has(o.File) {
		return api.ErrNone
	}
	return api.OK
}

// maySize tells whether a file may have so many pages.
func maySize(pages int) bool { return pages >= 0 && pages <= api.MaxPages }
