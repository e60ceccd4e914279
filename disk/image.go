package disk

import (
	"strings"

	"kindred/api"
)

// An image is its mark, then of each file its name and its bytes, each behind its length.
const (
	mark      = "D"
	nameField = 1
	sizeField = 4
)

// entry is a file as an image has it: pieces of the image.
type entry struct{ name, bytes string }

// Open makes a disk of what an image holds.
func Open(image string, capacity int) (*Disk, api.Errno) {
	d := New(capacity)
	if d == nil {
		return nil, api.ErrRange
	}
	entries, ok := parse(image)
	if !ok {
		return nil, api.ErrImage
	}
	for _, e := range entries {
		d.used += len(e.bytes)
	}
	if d.used > capacity {
		return nil, api.ErrFull
	}
	for _, e := range entries {
		d.files[strings.Clone(e.name)] = &file{bytes: []byte(e.bytes), durable: len(e.bytes)}
	}
	return d, api.OK
}

// Image is what is durable.
func (d *Disk) Image() string {
	d = d.self()
	var b strings.Builder
	b.Grow(d.imageSize())
	b.WriteString(mark)
	for _, name := range d.sorted() {
		f := d.files[name]
		b.Write(length(len(name), nameField))
		b.WriteString(name)
		b.Write(length(f.durable, sizeField))
		b.Write(f.bytes[:f.durable])
	}
	return b.String()
}

// imageSize is how long the image is: a great disk's bytes shall be copied once, and not each time that there is too little room for them.
func (d *Disk) imageSize() int {
	n := len(mark)
	for name, f := range d.files {
		n += nameField + len(name) + sizeField + f.durable
	}
	return n
}

// parse is an image's files; false: it is no image.
func parse(image string) ([]entry, bool) {
	rest, ok := strings.CutPrefix(image, mark)
	if !ok {
		return nil, false
	}
	var entries []entry
	last := ""
	for rest != "" {
		name, behind, ok := text(rest, nameField)
		if !ok || !isName(name) || name <= last || len(entries) >= api.MaxFiles {
			return nil, false
		}
		bytes, behind, ok := text(behind, sizeField)
		if !ok || len(bytes) > api.MaxFile {
			return nil, false
		}
		entries = append(entries, entry{name, bytes})
		last, rest = name, behind
	}
	return entries, true
}

// text is what stands at the front of b behind its length, which has so many bytes, and what stands behind it.
func text(b string, field int) (string, string, bool) {
	if len(b) < field {
		return "", "", false
	}
	n := 0
	for i := range field {
		n = n<<8 | int(b[i])
	}
	b = b[field:]
	if n > len(b) {
		return "", "", false
	}
	return b[:n], b[n:], true
}

// length writes a length in so many bytes, the highest first.
func length(n, field int) []byte {
	b := make([]byte, field)
	for i := range b {
		b[i] = byte(n >> (8 * (field - 1 - i)))
	}
	return b
}
