package kern

import (
	"pantry/api"
)

// get tells a byte of a file.
func (k *Kernel) get(o api.Op) (int, api.Errno) {
	if _, err := k.lookIn(o.File, o.Off, isAt(o.At)); err != api.OK {
		return 0, err
	}
	frame, err := k.bring(o.File, o.Off, 0)
	if err != api.OK {
		return 0, err
	}
	return k.byteOf(frame, o.At), api.OK
}

// put makes a byte of a file have a value.
func (k *Kernel) put(o api.Op) api.Errno {
	if _, err := k.lookIn(o.File, o.Off, isAt(o.At) && isByte(o.Value)); err != api.OK {
		return err
	}
	frame, err := k.change(o.File, o.Off, 0)
	if err == api.OK {
		k.memory.SetByte(frame, o.At, byte(o.Value))
	}
	return err
}

// size makes a file have so many pages.
func (k *Kernel) size(o api.Op) api.Errno {
	switch {
	case !k.isFile(o.File):
		return api.ErrNone
	case o.Pages < 0 || o.Pages > api.MaxPages:
		return api.ErrInval
	}
	id := k.objects.Of(o.File)
	for page, x := range k.objects.Pages(id, o.Pages, api.MaxPages) {
		k.shutAll(x.Frame)
		k.objects.Drop(id, page)
		k.discard(x.Frame, x.Slot)
	}
	return k.files.Resize(o.File, o.Pages)
}

// sync writes the pages of a file that have changed into it.
func (k *Kernel) sync(o api.Op) api.Errno {
	if !k.isFile(o.File) {
		return api.ErrNone
	}
	err := api.OK
	id := k.objects.Of(o.File)
	for page := range k.objects.Pages(id, 0, api.MaxPages) {
		if err = k.clean(id, page); err != api.OK {
			break
		}
	}
	k.freeze() // pages that have changed no more change by another store
	return err
}
