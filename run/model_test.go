package run_test

import (
	"fmt"
	"math/big"
	"slices"
	"strings"

	"kindred/api"
	"kindred/block"
	"kindred/disk"
	"kindred/internal/sample"
)

// A second writing of the chapter: what Write and Delete do is done to another disk, call by call; whether files are a run is asked file by file, entry by entry.

// goes is why options are refused.
func goes(o api.Opts) api.Errno {
	if !slices.Contains([]int{64, 128, 192, 256, 320, 384, 448, 512, 576, 640, 704, 768, 832, 896, 960, 1024}, o.Width) {
		return api.ErrWidth
	}
	if o.Mode != 1 && o.Mode != 2 {
		return api.ErrMode
	}
	if o.Mode == 2 && o.Chunks != 0 || o.Mode == 1 && (32*o.Chunks < o.Width || o.Chunks > 128 || 8*o.Chunks > o.Width) {
		return api.ErrChunks
	}
	return api.OK
}

// refusal is that of a number and options.
func refusal(number int, o api.Opts) api.Errno {
	if number < 1 || number > 1099511627776 {
		return api.ErrRange
	}
	return goes(o)
}

// part is what a table takes of a code, and how many bits its file's head tells.
type part struct{ from, width, bits int }

// parts are the tables of options that go.
func parts(o api.Opts) []part {
	if o.Mode == 2 {
		return []part{{0, 0, 1}}
	}
	var list []part
	from := 0
	for left := o.Chunks; left > 0; left-- {
		n := (o.Width - from + left - 1) / left // what is left, over the chunks that are left: the greater ones come first
		list = append(list, part{from, n, n})
		from += n
	}
	return list
}

// value is that of a code: of the number that its bytes are.
func (p part) value(code string) int {
	x := new(big.Int).SetBytes([]byte(code))
	x.Rsh(x, uint(8*len(code)-p.from-p.width))
	x.And(x, big.NewInt(1<<p.width-1))
	return int(x.Int64())
}

// ahead: a stands ahead of b in a table.
func ahead(a, b api.Entry) bool {
	if a.Value != b.Value {
		return a.Value < b.Value
	}
	if a.Code != b.Code {
		return a.Code < b.Code
	}
	return a.ID < b.ID
}

// entries are a table's: each is put where those ahead of it end.
func (p part) entries(list []api.Entry) []api.Entry {
	var own []api.Entry
	for _, e := range list {
		e.Value = p.value(e.Code)
		place := len(own)
		for place > 0 && ahead(e, own[place-1]) {
			place--
		}
		own = slices.Insert(own, place, e)
	}
	return own
}

// bytes are those of a table's file.
func (p part) bytes(j int, o api.Opts, info api.RunInfo, list []api.Entry) string {
	b, e := block.Build(api.Head{Width: o.Width, Table: j, Bits: p.bits, Lo: info.Lo, Hi: info.Hi}, p.entries(list))
	if e != api.OK {
		panic("a table that can't be built")
	}
	return b
}

func name(number, j int) string { return fmt.Sprintf("r%d.%d", number, j) }

func names(number int, o api.Opts) []string {
	var list []string
	if refusal(number, o) == api.OK {
		for j := range parts(o) {
			list = append(list, name(number, j))
		}
	}
	return list
}

// zeroed is a list with Value 0 in each.
func zeroed(list []api.Entry) []api.Entry {
	list = slices.Clone(list)
	for i := range list {
		list[i].Value = 0
	}
	return list
}

func modelWrite(d *disk.Disk, number int, o api.Opts, info api.RunInfo, list []api.Entry) api.Errno {
	if e := refusal(number, o); e != api.OK {
		return e
	}
	if d.Down() {
		return api.ErrDown
	}
	if _, e := block.Build(api.Head{Width: o.Width, Bits: 32, Lo: info.Lo, Hi: info.Hi}, zeroed(list)); e != api.OK {
		return e
	}
	for j, p := range parts(o) {
		made := j
		e := d.Create(name(number, j))
		if e == api.OK {
			made++
			e = d.Append(name(number, j), p.bytes(j, o, info, list))
		}
		if e == api.OK {
			e = d.Sync(name(number, j))
		}
		if e == api.OK {
			continue
		}
		for i := 0; i < made && e != api.ErrDown; i++ {
			d.Delete(name(number, i))
		}
		return e
	}
	return api.OK
}

func modelDelete(d *disk.Disk, number int, o api.Opts) api.Errno {
	if e := refusal(number, o); e != api.OK {
		return e
	}
	for j := range parts(o) {
		if e := d.Delete(name(number, j)); e == api.ErrNone {
			continue
		} else if e != api.OK {
			return e
		}
	}
	return api.OK
}

// modelOpen is what Open answers, and the files' entries, table by table.
func modelOpen(d *disk.Disk, o api.Opts, info api.RunInfo) ([][]api.Entry, api.Errno) {
	if e := refusal(info.Number, o); e != api.OK {
		return nil, e
	}
	if d.Down() {
		return nil, api.ErrDown
	}
	var all [][]api.Entry
	for j, p := range parts(o) {
		if !slices.Contains(d.Names(), name(info.Number, j)) {
			return nil, api.ErrCorrupt
		}
		f, e := block.Open(bytesOf(d, name(info.Number, j)))
		if e != api.OK {
			return nil, api.ErrCorrupt
		}
		if f.Head() != (api.Head{Width: o.Width, Table: j, Bits: p.bits, Lo: info.Lo, Hi: info.Hi, Count: info.Count}) {
			return nil, api.ErrCorrupt
		}
		for _, e := range f.All() {
			if e.Value != p.value(e.Code) {
				return nil, api.ErrCorrupt
			}
		}
		all = append(all, f.All())
		if !sameWords(all[0], all[j]) {
			return nil, api.ErrCorrupt
		}
	}
	return all, api.OK
}

// sameWords: two lists have the same entries as often, but for their values and their order.
func sameWords(a, b []api.Entry) bool {
	count := map[api.Entry]int{}
	for _, e := range zeroed(a) {
		count[e]++
	}
	for _, e := range zeroed(b) {
		count[e]--
	}
	for _, n := range count {
		if n != 0 {
			return false
		}
	}
	return true
}

// bytesOf is all that a file has.
func bytesOf(d *disk.Disk, name string) string {
	n, _ := d.Size(name)
	b, _ := d.Read(name, 0, n)
	return b
}

// put makes a file of these bytes, in the place of what has the name.
func put(d *disk.Disk, name, b string) {
	d.Delete(name)
	d.Create(name)
	d.Append(name, b)
	d.Sync(name)
}

// copied is a disk with the same files and room, all bytes durable.
func copied(d *disk.Disk) *disk.Disk {
	c, _ := disk.Open(d.Image(), d.Room())
	return c
}

// seenOf is all that a disk tells of itself while its power is on.
func seenOf(d *disk.Disk) string {
	var b strings.Builder
	fmt.Fprintf(&b, "%q %v %d %d %d", d.Image(), d.Down(), d.Used(), d.Writes(), d.Age())
	for _, name := range d.Names() {
		fmt.Fprintf(&b, " %s %q", name, bytesOf(d, name))
	}
	return b.String()
}

// maker makes options, codes and lists up.
type maker struct{ *sample.Source }

func from(seed int) maker { return maker{sample.From(seed)} }

// opts are some that go.
func (g maker) opts() api.Opts {
	w := 64 * (1 + g.Below(1+g.Below(16)))
	if g.Below(5) == 0 {
		return api.Opts{Width: w, Mode: api.Treed}
	}
	least, most := w/32, w/8
	return api.Opts{Width: w, Chunks: []int{least, most, least + g.Below(most-least+1)}[g.Below(3)], Mode: api.Chunked}
}

// code is one of a few, or one beside them, or any one.
func (g maker) code(w int) string {
	b := []byte(strings.Repeat([]string{"\x00", "\xff", "\x5a"}[g.Below(3)], w/8))
	switch g.Below(4) {
	case 0:
		return g.Text(w / 8)
	case 1, 2:
		i := g.Below(w)
		b[i/8] ^= 1 << (i % 8)
	}
	return string(b)
}

// info are bounds of updates, the edges among them.
func (g maker) info() api.RunInfo {
	lo := []int{0, 0, 7, 127, 1<<60 - 2000}[g.Below(5)]
	return api.RunInfo{Lo: lo, Hi: min(lo+1+g.Below(2000), 1<<60)}
}

// list are up to n words that rise by code and id; their values are anything.
func (g maker) list(o api.Opts, info api.RunInfo, n int) []api.Entry {
	var list []api.Entry
	for range n {
		id := []int{0, g.Below(4), g.Below(1000), 1<<48 - g.Below(3)}[g.Below(4)]
		list = append(list, api.Entry{Code: g.code(o.Width), ID: id, Seq: info.Lo + 1 + g.Below(info.Hi-info.Lo), Dead: g.Below(3) == 0})
	}
	slices.SortFunc(list, func(a, b api.Entry) int {
		if a.Code != b.Code {
			return strings.Compare(a.Code, b.Code)
		}
		return a.ID - b.ID
	})
	list = slices.CompactFunc(list, func(a, b api.Entry) bool { return a.Code == b.Code && a.ID == b.ID })
	for i := range list {
		list[i].Value = int(g.Next()) >> g.Below(64)
	}
	return list
}

// told is something in words, not too many.
func told(what any) string {
	s := fmt.Sprintf("%+q", fmt.Sprintf("%+v", what))
	if len(s) > 1200 {
		s = s[:1200] + " .."
	}
	return s
}
