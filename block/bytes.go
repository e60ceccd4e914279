package block

import (
	"iter"
	"strings"

	"kindred/api"
	"kindred/seal"
)

// Kinds of a file's frames, in their order.
const (
	headKind  = 4
	blockKind = 5
	indexKind = 6
	footKind  = 7
)

const (
	valueBytes = 4
	sumBytes   = 4
	// Of an entry the value and, in one byte each, the id, the number and whether it is dead: all but the code.
	leastBytes = valueBytes + 3
)

const (
	put  = "\x00"
	dead = "\x01"
)

// line is what the index says of a block: its first entry, how many it has, where its frame begins.
type line struct {
	first api.Entry
	count int
	at    int
}

// write is the file of entries that go with a head.
func write(h api.Head, list []api.Entry) string {
	var file strings.Builder
	add := func(kind int, payload string) {
		frame, _ := seal.Frame(kind, payload) // no payload is longer than BlockBytes
		file.WriteString(frame)
	}
	h.Count = len(list)
	add(headKind, headBytes(h))
	var lines []line
	sum := seal.Sum("")
	for part, payload := range packed(list, entryBytes) {
		lines = append(lines, line{first: part[0], count: len(part), at: file.Len()})
		sum = seal.On(sum, payload)
		add(blockKind, payload)
	}
	index := file.Len()
	for _, payload := range packed(lines, lineBytes) {
		add(indexKind, payload)
	}
	add(footKind, number(len(lines))+number(index)+fixed(uint64(sum), sumBytes))
	return file.String()
}

// packed parts a list, each part having as many elements as have together at most BlockBytes bytes; with each part go these bytes.
func packed[T any](list []T, form func(T) string) iter.Seq2[[]T, string] {
	return func(yield func([]T, string) bool) {
		var payload []byte
		from := 0
		for i, x := range list {
			b := form(x)
			if len(payload)+len(b) > api.BlockBytes {
				if !yield(list[from:i], string(payload)) {
					return
				}
				from, payload = i, payload[:0]
			}
			payload = append(payload, b...)
		}
		if from < len(list) {
			yield(list[from:], string(payload))
		}
	}
}

func headBytes(h api.Head) string {
	return number(h.Width) + number(h.Table) + number(h.Bits) + number(h.Lo) + number(h.Hi) + number(h.Count)
}

func entryBytes(e api.Entry) string {
	word := put
	if e.Dead {
		word = dead
	}
	return placeBytes(e) + number(e.Seq) + word
}

func lineBytes(l line) string { return placeBytes(l.first) + number(l.count) + number(l.at) }

// placeBytes are those by which entries are ordered.
func placeBytes(e api.Entry) string {
	return fixed(uint64(e.Value), valueBytes) + e.Code + number(e.ID)
}

// number is one that is known not to be negative.
func number(n int) string { return seal.PutVar(uint64(n)) }

// fixed is a number that is known to have room in so many bytes.
func fixed(n uint64, size int) string {
	b, _ := seal.PutFix(n, size)
	return b
}

// read tells the head and the blocks of what may be a file, as far as they go; not, if there is no head, or none with which entries can be read.
func read(b string) (*File, bool) {
	kind, payload, at, e := seal.Parse(b, 0)
	if e != api.OK || kind != headKind {
		return nil, false
	}
	f := &File{head: readHead(payload)}
	// Room is made for so many entries as the head tells: a lie must not ask for more than the bytes can have.
	if checkHead(f.head) != api.OK || f.head.Count < 0 || f.head.Count > len(b)/(f.codeBytes()+leastBytes) {
		return nil, false
	}
	for {
		kind, payload, at, e = seal.Parse(b, at)
		if e != api.OK || kind != blockKind {
			return f, true
		}
		f.blocks = append(f.blocks, payload)
	}
}

// readHead is the head that bytes say; that without a width, if they say none.
func readHead(b string) api.Head {
	var n [6]int
	at := 0
	for i := range n {
		v, end, e := seal.Var(b, at)
		if e != api.OK {
			return api.Head{}
		}
		n[i], at = int(v), end // what is too great for an int turns negative, which goes nowhere
	}
	return api.Head{Width: n[0], Table: n[1], Bits: n[2], Lo: n[3], Hi: n[4], Count: n[5]}
}

// entries are those of a block, as far as they can be read.
func entries(block string, codeBytes int) iter.Seq[api.Entry] {
	return func(yield func(api.Entry) bool) {
		e, at, ok := entryAt(block, 0, codeBytes)
		for ok && yield(e) {
			e, at, ok = entryAt(block, at, codeBytes)
		}
	}
}

// entryAt is the entry at a place of a block, and the place behind it; not, if none can be read there.
func entryAt(b string, at, codeBytes int) (api.Entry, int, bool) {
	value, e := seal.Fix(b, at, valueBytes)
	if e != api.OK {
		return api.Entry{}, 0, false
	}
	from := at + valueBytes
	to := from + codeBytes
	id, at, e := seal.Var(b, to) // refuses, too, where the code goes beyond the end
	if e != api.OK {
		return api.Entry{}, 0, false
	}
	seq, at, e := seal.Var(b, at)
	if e != api.OK || at == len(b) {
		return api.Entry{}, 0, false
	}
	return api.Entry{Value: int(value), Code: b[from:to], ID: int(id), Seq: int(seq), Dead: b[at:at+1] == dead}, at + 1, true
}
