package play

import (
	"kindred/api"
	"kindred/disk"
)

// cutsOf are what a power cut leaves, by a step. (A number made a byte is that number modulo 256, one below 0 too.)
func cutsOf(s api.Step) []api.Cut {
	cuts := make([]api.Cut, len(s.S))
	for i, name := range s.S {
		cuts[i] = api.Cut{Name: name, Keep: at(s.N, 2*i), Spoil: byte(at(s.N, 2*i+1))}
	}
	return cuts
}

// spoilt is a disk with the same files, all of them durable, a byte of one of them changed. The disk itself stays as it is: an engine may be over it.
func spoilt(d *disk.Disk, name string, place int, by byte) (*disk.Disk, api.Errno) {
	size, e := d.Size(name)
	if e == api.ErrName {
		// What no file can be called none is called.
		e = api.ErrNone
	}
	if e != api.OK {
		return nil, e
	}
	if place < 0 || place >= size {
		return nil, api.ErrRange
	}
	other := disk.New(d.Room())
	for _, n := range d.Names() {
		b, e := whole(d, n)
		if e != api.OK {
			return nil, e
		}
		if n == name {
			b = b[:place] + string([]byte{b[place] ^ by}) + b[place+1:]
		}
		if e := store(other, n, b); e != api.OK {
			return nil, e
		}
	}
	return other, api.OK
}

// whole are all bytes of a file.
func whole(d *disk.Disk, name string) (string, api.Errno) {
	size, e := d.Size(name)
	if e != api.OK {
		return "", e
	}
	return d.Read(name, 0, size)
}

// store makes a file of bytes that last.
func store(d *disk.Disk, name, b string) api.Errno {
	if e := d.Create(name); e != api.OK {
		return e
	}
	if e := d.Append(name, b); e != api.OK {
		return e
	}
	return d.Sync(name)
}
