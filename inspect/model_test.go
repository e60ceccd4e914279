package inspect_test

import (
	"cmp"
	"fmt"
	"math/big"
	"slices"
	"strings"

	"kindred/api"
	"kindred/block"
	"kindred/disk"
	"kindred/journal"
	"kindred/manifest"
)

// A second writing of the chapter: each of its sentences is asked by itself, by plain looks at lists, and what Repair writes is written call by call on another disk.

// part is what a table takes of a code, and how many bits its file's head tells.
type part struct{ from, width, bits int }

// parts are the tables of options that go.
func parts(o api.Opts) []part {
	if o.Mode == 2 {
		return []part{{0, 0, 1}}
	}
	var list []part
	from := 0
	for left := o.Chunks; left > 0; left-- {
		n := (o.Width - from + left - 1) / left // what is left, over the chunks that are left: the greater ones come first
		list = append(list, part{from, n, n})
		from += n
	}
	return list
}

// value is that of a code: of the number that its bytes are.
func (p part) value(code string) int {
	if p.width == 0 {
		return 0
	}
	x := new(big.Int).SetBytes([]byte(code))
	x.Rsh(x, uint(8*len(code)-p.from-p.width))
	x.And(x, big.NewInt(1<<p.width-1))
	return int(x.Int64())
}

// head is what a table's file has to say.
func (p part) head(o api.Opts, info api.RunInfo, j int) api.Head {
	return api.Head{Width: o.Width, Table: j, Bits: p.bits, Lo: info.Lo, Hi: info.Hi, Count: info.Count}
}

// bytes are those of a table's file.
func (p part) bytes(o api.Opts, info api.RunInfo, j int, list []api.Entry) string {
	list = slices.Clone(list)
	for i := range list {
		list[i].Value = p.value(list[i].Code)
	}
	slices.SortFunc(list, func(a, b api.Entry) int {
		return cmp.Or(a.Value-b.Value, strings.Compare(a.Code, b.Code), a.ID-b.ID)
	})
	b, e := block.Build(p.head(o, info, j), list)
	if e != api.OK {
		panic(fmt.Sprint("a table that can't be built: ", e))
	}
	return b
}

// words are those of a table's file, if it is whole.
func (p part) words(d *disk.Disk, o api.Opts, info api.RunInfo, j int) ([]api.Entry, bool) {
	f, e := block.Open(bytesOf(d, rname(info.Number, j)))
	if e != api.OK || f.Head() != p.head(o, info, j) {
		return nil, false
	}
	list := f.All()
	for i, e := range list {
		if e.Value != p.value(e.Code) {
			return nil, false
		}
		list[i].Value = 0
	}
	return byCode(list), true
}

// byCode sorts words by code, then id.
func byCode(list []api.Entry) []api.Entry {
	slices.SortFunc(list, func(a, b api.Entry) int { return cmp.Or(strings.Compare(a.Code, b.Code), a.ID-b.ID) })
	return list
}

// rname and jname are files' names.
func rname(number, j int) string { return fmt.Sprintf("r%d.%d", number, j) }
func jname(number int) string    { return fmt.Sprintf("j%d", number) }

// bytesOf is all that a file has.
func bytesOf(d *disk.Disk, name string) string {
	n, _ := d.Size(name)
	b, _ := d.Read(name, 0, n)
	return b
}

func isThere(d *disk.Disk, name string) bool { return slices.Contains(d.Names(), name) }

// model is what the chapter says of a disk.
type model struct {
	d       *disk.Disk
	m       api.Manifest
	damages []api.Damage
	saved   []api.Pair
	seq     int // S
	good    int // where the journal's bad tail begins
}

func (x *model) tell(name string, e api.Errno) {
	x.damages = append(x.damages, api.Damage{Name: name, Code: e})
}

// names are those that a manifest names.
func names(m api.Manifest) []string {
	list := []string{"manifest", jname(m.Journal)}
	for _, info := range m.Runs {
		for j := range parts(m.Opts) {
			list = append(list, rname(info.Number, j))
		}
	}
	return list
}

// strays are the files of ours that a manifest does not name.
func strays(d *disk.Disk, m api.Manifest) []string {
	named := names(m)
	return slices.DeleteFunc(d.Names(), func(name string) bool {
		kind, _, _ := manifest.Kind(name)
		return kind == 0 || slices.Contains(named, name)
	})
}

// modelLook is what Check is to tell, and what there is to be saved.
func modelLook(d *disk.Disk) (*model, api.Errno) {
	if d.Down() {
		return nil, api.ErrDown
	}
	if !isThere(d, "manifest") {
		return nil, api.ErrNone
	}
	m, e := manifest.Decode(bytesOf(d, "manifest"))
	if e != api.OK {
		return nil, api.ErrCorrupt
	}
	x := &model{d: d, m: m}
	for _, name := range strays(d, m) {
		x.tell(name, api.ErrExists)
	}
	var all []api.Entry // the words of all first whole files, run behind run
	for _, info := range m.Runs {
		all = append(all, x.run(info)...)
	}
	sound := !slices.ContainsFunc(x.damages, func(y api.Damage) bool { return y.Code != api.ErrExists })
	words := lastWords(all)
	apart := sound && areApart(all, words)
	if apart {
		x.tell("manifest", api.ErrApart)
	}
	updates, good, e := journal.Look(d, m.Journal, m.Seq, m.Width)
	x.good = good
	switch name := jname(m.Journal); {
	case !isThere(d, name):
		x.tell(name, api.ErrNone)
	case e != api.OK:
		x.tell(name, api.ErrCorrupt)
	case sound && !apart && !canBeMade(words, updates):
		x.tell(name, api.ErrApart)
	case good != len(bytesOf(d, name)):
		x.tell(name, api.ErrLong)
	}
	slices.SortFunc(x.damages, func(a, b api.Damage) int { return strings.Compare(a.Name, b.Name) })
	x.save(words, updates)
	return x, api.OK
}

// run tells what is wrong with a run's files; it is the words of its first whole one.
func (x *model) run(info api.RunInfo) []api.Entry {
	var first []api.Entry
	for j, p := range parts(x.m.Opts) {
		name := rname(info.Number, j)
		if !isThere(x.d, name) {
			x.tell(name, api.ErrNone)
			continue
		}
		list, whole := p.words(x.d, x.m.Opts, info, j)
		if whole && first == nil {
			first = list
		}
		if !whole || !slices.Equal(list, first) {
			x.tell(name, api.ErrCorrupt)
		}
	}
	return first
}

// lastWords are those of each pair, of two with one number the later run's; by pairs.
func lastWords(all []api.Entry) []api.Entry {
	list := slices.Clone(all)
	slices.Reverse(list)
	slices.SortStableFunc(list, func(a, b api.Entry) int {
		return cmp.Or(a.ID-b.ID, strings.Compare(a.Code, b.Code), b.Seq-a.Seq)
	})
	return slices.CompactFunc(list, func(a, b api.Entry) bool { return a.ID == b.ID && a.Code == b.Code })
}

// lives are the words that put.
func lives(words []api.Entry) []api.Entry {
	return slices.DeleteFunc(slices.Clone(words), func(e api.Entry) bool { return e.Dead })
}

// areApart: the runs' words do not go together.
func areApart(all, words []api.Entry) bool {
	seqs := map[int]int{}
	for _, e := range all {
		seqs[e.Seq]++
	}
	ids := map[int]int{}
	for _, e := range lives(words) {
		ids[e.ID]++
	}
	return len(seqs) < len(all) || len(ids) < len(lives(words)) || len(ids) > 1048576
}

// canBeMade: updates can be made one by one behind words that go together.
func canBeMade(words []api.Entry, updates []api.Update) bool {
	pairs := map[int]string{}
	for _, e := range lives(words) {
		pairs[e.ID] = e.Code
	}
	spoken := map[string]int{}
	for _, u := range updates {
		code, ok := pairs[u.ID]
		if u.Kind == 1 && ok || u.Kind == 2 && !ok {
			return false
		}
		if u.Kind == 1 {
			code = u.Code
			pairs[u.ID] = code
		} else {
			delete(pairs, u.ID)
		}
		spoken[fmt.Sprint(u.ID, code)]++
		if len(pairs) > 1048576 || len(spoken) > 65536 {
			return false
		}
	}
	return true
}

// save is what 23.4 saves.
func (x *model) save(words []api.Entry, updates []api.Update) {
	last := lives(words)
	slices.SortFunc(last, func(a, b api.Entry) int {
		return cmp.Or(a.ID-b.ID, b.Seq-a.Seq, strings.Compare(a.Code, b.Code))
	})
	pairs := map[int]string{}
	for _, e := range slices.Backward(last) { // so the one that counts comes last
		pairs[e.ID] = e.Code
	}
	for _, u := range updates {
		if u.Kind == 1 {
			pairs[u.ID] = u.Code
		} else {
			delete(pairs, u.ID)
		}
	}
	for id, code := range pairs {
		x.saved = append(x.saved, api.Pair{ID: id, Code: code})
	}
	slices.SortFunc(x.saved, func(a, b api.Pair) int { return a.ID - b.ID })
	x.saved = x.saved[:min(1048576, len(x.saved))]
	x.seq = max(x.m.Seq+len(updates), len(x.saved))
}

func modelCheck(d *disk.Disk) ([]api.Damage, api.Errno) {
	x, e := modelLook(d)
	if e == api.ErrCorrupt {
		return []api.Damage{{Name: "manifest", Code: api.ErrCorrupt}}, api.OK
	}
	if e != api.OK {
		return nil, e
	}
	return x.damages, api.OK
}

// isOpen: no other damages than ErrLong and ErrExists.
func isOpen(damages []api.Damage) bool {
	return !slices.ContainsFunc(damages, func(x api.Damage) bool { return x.Code != api.ErrLong && x.Code != api.ErrExists })
}

func modelRepair(d *disk.Disk) ([]api.Damage, api.Errno) {
	x, e := modelLook(d)
	if e != api.OK {
		return nil, e
	}
	if isOpen(x.damages) {
		e = x.clear()
	} else {
		e = x.anew()
	}
	if e != api.OK {
		return nil, e
	}
	return x.damages, api.OK
}

// clear is point 2 (and point 1).
func (x *model) clear() api.Errno {
	for _, y := range x.damages {
		if y.Code != api.ErrExists {
			continue
		}
		if e := x.d.Delete(y.Name); e != api.OK {
			return e
		}
	}
	for _, y := range x.damages {
		if y.Code == api.ErrLong {
			return x.d.Cut(y.Name, x.good)
		}
	}
	return api.OK
}

// anew is point 3.
func (x *model) anew() api.Errno {
	n, p := x.m.Next, len(x.saved)
	if n+2 > 1099511627776 {
		return api.ErrWorn
	}
	for _, name := range strays(x.d, x.m) {
		if e := x.d.Delete(name); e != api.OK {
			return e
		}
	}
	m := api.Manifest{Opts: x.m.Opts, Seq: x.seq, Next: n + 2, Journal: n + 1}
	var list []api.Entry
	for i, y := range x.saved {
		list = append(list, api.Entry{Code: y.Code, ID: y.ID, Seq: x.seq - p + 1 + i})
	}
	if p > 0 {
		m.Runs = []api.RunInfo{{Number: n, Lo: x.seq - p, Hi: x.seq, Count: p}}
		if e := x.files(m, list); e != api.OK {
			return e
		}
	}
	e := x.d.Create(jname(n + 1))
	if e == api.OK {
		e = x.store(m)
		if e != api.OK && e != api.ErrDown {
			x.d.Delete(jname(n + 1))
		}
	}
	if e != api.OK {
		for j := range parts(m.Opts) {
			if p > 0 && e != api.ErrDown {
				x.d.Delete(rname(n, j))
			}
		}
		return e
	}
	for _, name := range strays(x.d, m) {
		if e := x.d.Delete(name); e != api.OK {
			return e
		}
	}
	return api.OK
}

// files are those of the new run.
func (x *model) files(m api.Manifest, list []api.Entry) api.Errno {
	for j, p := range parts(m.Opts) {
		name := rname(m.Runs[0].Number, j)
		made := j
		e := x.d.Create(name)
		if e == api.OK {
			made++
			e = x.d.Append(name, p.bytes(m.Opts, m.Runs[0], j, list))
		}
		if e == api.OK {
			e = x.d.Sync(name)
		}
		if e == api.OK {
			continue
		}
		for i := 0; i < made && e != api.ErrDown; i++ {
			x.d.Delete(rname(m.Runs[0].Number, i))
		}
		return e
	}
	return api.OK
}

// store swaps the manifest: manifest.new is a stray, and so gone.
func (x *model) store(m api.Manifest) api.Errno {
	const fresh = "manifest.new"
	b, e := manifest.Encode(m)
	if e != api.OK {
		return e
	}
	if e := x.d.Create(fresh); e != api.OK {
		return e
	}
	if e := x.d.Append(fresh, b); e != api.OK {
		if e != api.ErrDown {
			x.d.Delete(fresh)
		}
		return e
	}
	if e := x.d.Sync(fresh); e != api.OK {
		return e
	}
	return x.d.Rename(fresh, "manifest")
}
