package run

import (
	"slices"
	"strconv"

	"kindred/api"
	"kindred/bits"
	"kindred/block"
	"kindred/disk"
	"kindred/merge"
)

// maxBits is how many bits a value can have.
const maxBits = 32

// table is one of a run's: its file's name, its number, the part of a code that makes its value there, how many bits a value has.
type table struct {
	name   string
	number int
	chunk  api.Chunk
	bits   int
}

// tables are those of the run of a number; none, with the refusal, if there can be no such run.
func tables(number int, o api.Opts) ([]table, api.Errno) {
	if number < 1 || number > api.MaxNumber {
		return nil, api.ErrRange
	}
	chunks, e := chunksOf(o)
	if e != api.OK {
		return nil, e
	}
	list := make([]table, len(chunks))
	for j, c := range chunks {
		name := "r" + strconv.Itoa(number) + "." + strconv.Itoa(j)
		list[j] = table{name: name, number: j, chunk: c, bits: max(c.Bits, 1)}
	}
	return list, api.OK
}

// chunksOf are the parts of a code that make its values, one a table. In Treed mode it is one without bits, since that has the value 0.
func chunksOf(o api.Opts) ([]api.Chunk, api.Errno) {
	switch {
	case bits.Check(o.Width, "") == api.ErrWidth:
		return nil, api.ErrWidth
	case o.Mode == api.Chunked:
		return bits.Chunks(o.Width, o.Chunks)
	case o.Mode != api.Treed:
		return nil, api.ErrMode
	case o.Chunks != 0:
		return nil, api.ErrChunks
	}
	return []api.Chunk{{}}, api.OK
}

// head is what the table's file says of itself.
func (t table) head(o api.Opts, info api.RunInfo) api.Head {
	return api.Head{Width: o.Width, Table: t.number, Bits: t.bits, Lo: info.Lo, Hi: info.Hi, Count: info.Count}
}

// value is that of a code; 0, if the text is too short for one.
func (t table) value(code string) int {
	value, _ := bits.Slice(code, t.chunk.From, t.chunk.Bits)
	return int(value)
}

// valued are a list's entries with their values here, in the list's order.
func (t table) valued(list []api.Entry) []api.Entry {
	own := slices.Clone(list)
	for i := range own {
		own[i].Value = t.value(own[i].Code)
	}
	return own
}

// entries are a list's entries with their values here, in the table's order.
func (t table) entries(list []api.Entry) []api.Entry {
	own := t.valued(list)
	slices.SortFunc(own, func(a, b api.Entry) int { return merge.Compare(a, b) })
	return own
}

// write makes each table's file, of the bytes that build tells, and makes it durable. A write that is refused takes away what it has made, as long as there is power for it.
func write(d *disk.Disk, all []table, build func(table) (string, api.Errno)) (refusal api.Errno) {
	var made []string
	defer func() {
		if refusal == api.OK || refusal == api.ErrDown {
			return
		}
		for _, name := range made {
			d.Delete(name) // what stood in the way of the files is the answer, also if the power goes here
		}
	}()
	for _, t := range all {
		b, e := build(t)
		if e != api.OK {
			return e
		}
		if e := d.Create(t.name); e != api.OK {
			return e
		}
		made = append(made, t.name)
		if e := d.Append(t.name, b); e != api.OK {
			return e
		}
		if e := d.Sync(t.name); e != api.OK {
			return e
		}
	}
	return api.OK
}

// read is the sorted file of a name; not, if there is none.
func read(d *disk.Disk, name string) (*block.File, bool) {
	size, e := d.Size(name)
	if e != api.OK {
		return nil, false
	}
	b, e := d.Read(name, 0, size)
	if e != api.OK {
		return nil, false
	}
	f, e := block.Open(b)
	return f, e == api.OK
}

// countDead is how many entries are dead.
func countDead(list []api.Entry) int {
	n := 0
	for _, e := range list {
		if e.Dead {
			n++
		}
	}
	return n
}
