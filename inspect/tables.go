package inspect

import (
	"cmp"
	"slices"

	"kindred/api"
	"kindred/bits"
	"kindred/block"
	"kindred/disk"
	"kindred/run"
)

// table is one of a run's: its file's name, what the file has to say of itself, the part of a code that makes its value there.
type table struct {
	name  string
	head  api.Head
	chunk api.Chunk
}

// tables are those of a run, from the first on.
func tables(o api.Opts, info api.RunInfo) []table {
	chunks := []api.Chunk{{}} // without bits: the value is always 0
	if o.Mode == api.Chunked {
		chunks, _ = bits.Chunks(o.Width, o.Chunks) // a manifest's options go
	}
	names := run.Names(info.Number, o)
	list := make([]table, len(chunks))
	for j, c := range chunks {
		head := api.Head{Width: o.Width, Table: j, Bits: max(c.Bits, 1), Lo: info.Lo, Hi: info.Hi, Count: info.Count}
		list[j] = table{name: names[j], head: head, chunk: c}
	}
	return list
}

// read are the words of the table's file; not, if it is missing or not whole.
func (t table) read(d *disk.Disk) ([]api.Entry, bool) {
	size, e := d.Size(t.name)
	if e != api.OK {
		return nil, false
	}
	b, e := d.Read(t.name, 0, size)
	if e != api.OK {
		return nil, false
	}
	f, e := block.Open(b)
	if e != api.OK || f.Head() != t.head {
		return nil, false
	}
	return t.words(f.All())
}

// words are entries without their values, by code, then id; not, if one has another value than its code has here.
func (t table) words(list []api.Entry) ([]api.Entry, bool) {
	for i := range list {
		value, _ := bits.Slice(list[i].Code, t.chunk.From, t.chunk.Bits)
		if list[i].Value != int(value) {
			return nil, false
		}
		list[i].Value = 0
	}
	sortByCode(list)
	return list, true
}

// sortByCode puts words in the order in which a run wants them.
func sortByCode(list []api.Entry) {
	slices.SortFunc(list, func(a, b api.Entry) int {
		return cmp.Or(cmp.Compare(a.Code, b.Code), cmp.Compare(a.ID, b.ID))
	})
}
