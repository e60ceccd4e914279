package inspect_test

import (
	"fmt"
	"slices"
	"testing"

	"kindred/api"
	"kindred/disk"
	"kindred/internal/sample"
	"kindred/keep"
	"kindred/manifest"
	"kindred/run"
)

func word(c byte, id, seq int) api.Entry { return api.Entry{Code: z(c), ID: id, Seq: seq} }

func death(c byte, id, seq int) api.Entry {
	return api.Entry{Code: z(c), ID: id, Seq: seq, Dead: true}
}

// TestWordsThatDoNotGo: files that are right by themselves.
func TestWordsThatDoNotGo(t *testing.T) {
	const fine, runs, updates = "", "manifest", "j40"
	for i, c := range []struct {
		runs    [][]api.Entry
		updates []api.Update
		apart   string // which file is told
		pairs   string // id and code, of what is saved
		seq     int    // S
	}{
		{nil, nil, fine, "", 0},
		{[][]api.Entry{{word(1, 1, 1), word(2, 2, 2)}}, nil, fine, "1 1, 2 2", 10},
		{[][]api.Entry{{word(1, 1, 2), word(2, 2, 2)}}, nil, runs, "1 1, 2 2", 10},                     // one number twice
		{[][]api.Entry{{word(1, 1, 2), death(2, 2, 2)}}, nil, runs, "1 1", 10},                         // of a dead one too
		{[][]api.Entry{{word(1, 1, 1), word(2, 1, 2)}}, nil, runs, "1 2", 10},                          // an id with two codes: the last one
		{[][]api.Entry{{word(2, 1, 1), word(1, 1, 2)}}, nil, runs, "1 1", 10},                          // whichever it is
		{[][]api.Entry{{word(7, 1, 5), word(3, 1, 5), word(5, 1, 5)}}, nil, runs, "1 3", 10},           // with one number: the least code
		{[][]api.Entry{{word(3, 1, 4), word(7, 1, 5), word(5, 1, 5)}}, nil, runs, "1 5", 10},           // of those with the greatest
		{[][]api.Entry{{word(1, 1, 1)}, {word(2, 1, 12)}}, nil, runs, "1 2", 20},                       // of two runs
		{[][]api.Entry{{word(1, 1, 1), death(2, 1, 2)}}, nil, fine, "1 1", 10},                         // one of them dead
		{[][]api.Entry{{word(1, 1, 1), word(2, 1, 2)}, {death(1, 1, 15)}}, nil, fine, "1 2", 20},       // dead later
		{[][]api.Entry{{word(1, 1, 1), word(2, 1, 2)}, {death(2, 1, 15)}}, nil, fine, "1 1", 20},       // the other one
		{[][]api.Entry{{death(1, 1, 1)}, {word(1, 1, 11)}}, nil, fine, "1 1", 20},                      // put again
		{[][]api.Entry{{word(1, 1, 1)}, {word(1, 1, 11)}}, nil, fine, "1 1", 20},                       // put twice
		{[][]api.Entry{{word(1, 1, 1)}, {death(1, 1, 11)}, {word(0, 1, 21)}}, nil, fine, "1 0", 30},    // with another code
		{[][]api.Entry{{death(9, 1, 1), death(8, 5, 7)}}, nil, fine, "", 10},                           // never lived
		{[][]api.Entry{{death(9, 1, 7), death(8, 5, 7)}}, nil, runs, "", 10},                           // nothing is saved: there is no run
		{[][]api.Entry{{word(1, 1, 1)}}, []api.Update{put(11, 2, z(2)), dead(12, 1)}, fine, "2 2", 12}, // as it should be
		{[][]api.Entry{{word(1, 1, 1)}}, []api.Update{put(11, 1, z(2))}, updates, "1 2", 11},           // it lives: the put counts
		{[][]api.Entry{{word(1, 1, 1)}}, []api.Update{put(11, 1, z(1))}, updates, "1 1", 11},           // the same pair
		{[][]api.Entry{{word(1, 1, 1)}}, []api.Update{dead(11, 2)}, updates, "1 1", 11},                // it does not: let go
		{[][]api.Entry{{word(1, 1, 1)}}, []api.Update{dead(11, 2), put(12, 2, z(4))}, updates, "1 1, 2 4", 12},
		{[][]api.Entry{{word(1, 1, 1)}}, []api.Update{dead(11, 1), dead(12, 1), put(13, 3, z(3))}, updates, "3 3", 13},
		{[][]api.Entry{{word(1, 1, 1)}}, []api.Update{dead(11, 1), put(12, 1, z(7)), dead(13, 1), put(14, 1, z(1))}, fine, "1 1", 14},
		{[][]api.Entry{{word(1, 1, 1), death(2, 1, 2)}}, []api.Update{put(11, 1, z(2))}, updates, "1 2", 11},          // it lives with another code
		{[][]api.Entry{{word(1, 1, 2), word(2, 1, 2)}}, []api.Update{put(11, 1, z(9)), dead(12, 5)}, runs, "1 9", 12}, // the runs alone are told
		{[][]api.Entry{{word(1, 1, 2), word(2, 1, 2)}}, []api.Update{dead(11, 1)}, runs, "", 11},                      // takes the id's pair away
		{nil, []api.Update{put(1, 2, z(2)), put(2, 3, z(2)), dead(3, 2)}, fine, "3 2", 3},
		{nil, []api.Update{dead(1, 2)}, updates, "", 1},
		{nil, []api.Update{put(1, 2, z(2)), put(2, 2, z(3)), put(3, 1, z(3))}, updates, "1 3, 2 3", 3},
	} {
		for _, o := range []api.Opts{eight, two, treed} {
			for _, tail := range []string{"", "half a frame"} {
				d := forged(t, o, c.runs, journalOf(t, c.updates...)+tail)
				b := bothOf(t, fmt.Sprintf("row %d of mode %d, tail %q", i, o.Mode, tail), d)
				var want []api.Damage
				if tail != "" && c.apart != updates {
					want = append(want, damage("j40", api.ErrLong))
				}
				if c.apart != fine {
					want = append(want, damage(c.apart, api.ErrApart))
				}
				if got, e := b.check(); !slices.Equal(got, want) || e != api.OK {
					t.Fatalf("23.1: %s: %v, %d, want %v", b.where, got, e, want)
				}
				b.repair()
				said := ""
				for _, p := range pairsOf(t, b.d) {
					said += fmt.Sprintf(", %d %d", p.ID, p.Code[0])
				}
				k, e := keep.Open(b.d)
				if e != api.OK || said != map[bool]string{true: ", " + c.pairs}[c.pairs != ""] || k.Seq() != c.seq {
					t.Fatalf("23.4: %s: Open %d: %s, Seq %d, want %s, %d", b.where, e, said, k.Seq(), c.pairs, c.seq)
				}
			}
		}
	}
}

// TestMorePairsThanNumbers (23.4): S is as great as how many pairs are saved.
func TestMorePairsThanNumbers(t *testing.T) {
	for _, o := range []api.Opts{two, treed} {
		d := disk.New(1 << 20)
		info := api.RunInfo{Number: 1, Lo: 1, Hi: 2, Count: 5}
		var list []api.Entry
		for id := range 5 {
			list = append(list, word(byte(9-id), id, 2))
		}
		answers(t, "14.2: Write", run.Write(d, 1, o, info, byCode(list)), api.OK)
		lay(d, "j2", journalOf(t, dead(3, 4)))
		answers(t, "8.5: Store", manifest.Store(d, api.Manifest{Opts: o, Seq: 2, Next: 3, Journal: 2, Runs: []api.RunInfo{info}}), api.OK)
		b := bothOf(t, fmt.Sprint("mode ", o.Mode), d)
		b.check()
		b.repair()
		m, e := manifest.Load(b.d)
		if e != api.OK || m.Seq != 4 || m.Next != 5 || m.Journal != 4 || m.Opts != o || !slices.Equal(m.Runs, []api.RunInfo{{Number: 3, Lo: 0, Hi: 4, Count: 4}}) {
			t.Errorf("23.3: the manifest is %+v, %d", m, e)
		}
		r, e := run.Open(b.d, o, m.Runs[0])
		answers(t, "14.4: Open", e, api.OK)
		for id := range 4 {
			if x, ok := r.Find(z(byte(9-id)), id); !ok || x.Seq != id+1 || x.Dead {
				t.Errorf("23.3: pair %d: %v, %v", id, x, ok)
			}
		}
	}
}

// TestJournals: journals that can't be looked at, and those that can.
func TestJournals(t *testing.T) {
	good := []api.Update{put(11, 2, z(2)), put(12, 3, z(3)), dead(13, 1)}
	for name, c := range map[string]struct {
		bytes string
		want  api.Errno
		ids   []int
	}{
		"none":                         {"", api.OK, []int{1}},
		"three updates":                {journalOf(t, good...), api.OK, []int{2, 3}},
		"a gap":                        {journalOf(t, good[0], good[2]), api.ErrCorrupt, []int{1}},
		"a number of a run":            {journalOf(t, put(10, 2, z(2))), api.ErrCorrupt, []int{1}},
		"the first one twice":          {journalOf(t, good[0], good[0]), api.ErrCorrupt, []int{1}},
		"a code of another length":     {journalOf(t, put(11, 2, z(2)+z(2))), api.ErrCorrupt, []int{1}},
		"a gap behind half a frame":    {journalOf(t, good[0])[:9] + journalOf(t, good[2]), api.ErrLong, []int{1}},
		"half a frame":                 {journalOf(t, good[:2]...)[:30], api.ErrLong, []int{1, 2}},
		"a manifest's frame behind it": {journalOf(t, good[0]) + bytesOf(store(t, two), "manifest"), api.ErrCorrupt, []int{1}},
		"it does not go":               {journalOf(t, good[0], dead(12, 3)), api.ErrApart, []int{1, 2}},
		"it does not go, and a tail":   {journalOf(t, good[0], dead(12, 3)) + "x", api.ErrApart, []int{1, 2}},
	} {
		for _, harm := range []bool{false, true} { // where a run is damaged, the updates need not go
			b := bothOf(t, fmt.Sprintf("%s, harm %v", name, harm), forged(t, two, [][]api.Entry{{word(1, 1, 1)}}, c.bytes))
			want := c.want
			if harm {
				b.disks(func(d *disk.Disk) { d.Delete("r1.0") })
				switch {
				case want == api.ErrApart && name == "it does not go":
					want = api.OK
				case want == api.ErrApart:
					want = api.ErrLong
				}
			}
			list, _ := b.check()
			told := api.OK
			for _, x := range list {
				if x.Name == "j40" {
					told = x.Code
				}
			}
			if told != want || len(list) > 2 {
				t.Errorf("23.1: %s: %v, want %d", b.where, list, want)
			}
			b.repair()
			if got := idsOf(pairsOf(t, b.d)); !slices.Equal(got, c.ids) {
				t.Errorf("23.4: %s: %v, want %v", b.where, got, c.ids)
			}
		}
	}
}

// madeUp is a store of a few words, which go together or not.
func madeUp(t *testing.T, g *sample.Source, o api.Opts) *disk.Disk {
	t.Helper()
	var runs [][]api.Entry
	for n := range g.Below(4) {
		words := map[api.Pair]api.Entry{}
		seqs := []int{1, 2, 3, 4, 5, 6, 7, 8, 9, 10}
		for range 1 + g.Below(5) {
			e := api.Entry{Code: z(byte(g.Below(3))), ID: g.Below(4), Dead: g.Below(3) == 0}
			i := g.Below(len(seqs))
			e.Seq = 10*n + seqs[i]
			if g.Below(12) > 0 {
				seqs = slices.Delete(seqs, i, i+1)
			}
			words[api.Pair{ID: e.ID, Code: e.Code}] = e
		}
		var list []api.Entry
		for _, e := range words {
			list = append(list, e)
		}
		runs = append(runs, list)
	}
	var updates []api.Update
	for seq := range g.Below(5) {
		u := put(10*len(runs)+seq+1, g.Below(5), z(byte(g.Below(3))))
		if g.Below(3) == 0 {
			u = dead(u.Seq, u.ID)
		}
		updates = append(updates, u)
	}
	if len(updates) > 0 && g.Below(20) == 0 {
		updates[0].Seq++
	}
	return forged(t, o, runs, journalOf(t, updates...))
}

// harm does something to a store's files.
func harm(g *sample.Source, d *disk.Disk) {
	names := slices.DeleteFunc(d.Names(), func(name string) bool { return name == "manifest" && g.Below(20) > 0 })
	if len(names) == 0 {
		return
	}
	name := names[g.Below(len(names))]
	size := len(bytesOf(d, name))
	switch g.Below(8) {
	case 0:
		d.Delete(name)
	case 1:
		if size > 0 {
			turn(d, name, g.Below(size), byte(1<<g.Below(8)))
		}
	case 2:
		lay(d, name, bytesOf(d, name)[:g.Below(size+1)])
	case 3:
		d.Append(name, g.Text(1+g.Below(9)))
	case 4: // a file in the place of another
		lay(d, name, bytesOf(d, names[g.Below(len(names))]))
	case 5:
		lay(d, []string{"j41", "j50", "j51", "manifest.new", "r50.0", "r50.1", "r51.0", "notes", "r9.9"}[g.Below(9)], g.Text(g.Below(9)))
	case 6:
		otherWords(g, d, name)
	case 7:
		lay(d, "j40", bytesOf(d, "j40")+g.Text(g.Below(3)))
	}
}

// otherWords lays a file with a word changed in the place of a run's, and sometimes with a value that is none of its code.
func otherWords(g *sample.Source, d *disk.Disk, name string) {
	m, e := manifest.Load(d)
	kind, n, j := manifest.Kind(name)
	i := slices.IndexFunc(m.Runs, func(info api.RunInfo) bool { return info.Number == n })
	if e != api.OK || kind != api.NameRun || i < 0 || j >= len(parts(m.Opts)) {
		return
	}
	p := parts(m.Opts)[j]
	list, whole := p.words(d, m.Opts, m.Runs[i], j)
	if !whole {
		return
	}
	x := &list[g.Below(len(list))]
	switch g.Below(4) {
	case 0:
		x.Dead = !x.Dead
	case 1:
		x.Seq = m.Runs[i].Lo + 1 + g.Below(10)
	case 2:
		x.ID += 10
	case 3:
		x.Code = z(77)
	}
	for i, y := range list {
		if &list[i] != x && y.Code == x.Code && y.ID == x.ID {
			return // no file has a pair twice
		}
	}
	if g.Below(4) == 0 {
		p.from = max(0, p.from-1) // so values are others
	}
	lay(d, name, p.bytes(m.Opts, m.Runs[i], j, list))
}

// TestAnyFiles: made-up words, and made-up harm done to their files.
func TestAnyFiles(t *testing.T) {
	told := map[api.Errno]int{}
	sound := 0
	for seed := range 2500 {
		g := sample.From(seed)
		o := []api.Opts{treed, two, {Width: 64, Chunks: 3, Mode: 1}}[g.Below(3)]
		b := bothOf(t, fmt.Sprint("seed ", seed), madeUp(t, g, o))
		for range g.Below(4) {
			h := int(g.Next() >> 2)
			b.disks(func(d *disk.Disk) { harm(sample.From(h), d) })
		}
		b.agree("harm") // bytes that are not durable are compared too
		list, _ := b.check()
		for _, x := range list {
			told[x.Code]++
		}
		if len(list) == 0 {
			sound++
		}
		b.repair()
	}
	for _, e := range []api.Errno{api.ErrLong, api.ErrExists, api.ErrNone, api.ErrCorrupt, api.ErrApart} {
		if told[e] < 100 || sound < 100 {
			t.Errorf("23.1: of all damages there are %v, %d disks are sound", told, sound)
		}
	}
}

// TestValuesOfOthers: a file whose entries have values that are not those of their codes is not whole, though all else is right.
func TestValuesOfOthers(t *testing.T) {
	list := []api.Entry{{Value: 1, Code: z(1), ID: 1, Seq: 1}, {Value: 2, Code: z(2), ID: 2, Seq: 2}}
	for _, o := range []api.Opts{eight, treed} {
		d := forged(t, o, [][]api.Entry{list}, "")
		info := api.RunInfo{Number: 1, Hi: 10, Count: 2}
		for j, p := range parts(o) {
			b := bothOf(t, rname(1, j), d)
			p.width, p.from = 8, 0 // the first byte's value: right in table 0 of eight, and where values are alike
			if o.Mode == api.Treed {
				p.width, p.from = 1, 7
			}
			if o.Mode == api.Chunked && (j == 0 || j == 7) {
				p.from = 8
			}
			b.disks(func(d *disk.Disk) { lay(d, rname(1, j), p.bytes(o, info, j, list)) })
			if got, e := b.check(); !slices.Equal(got, []api.Damage{damage(rname(1, j), api.ErrCorrupt)}) || e != api.OK {
				t.Errorf("23.1: %s has other values: %v, %d", b.where, got, e)
			}
			b.repair()
		}
	}
}

// TestEveryWidth: each width with its fewest and its most chunks, and in Treed mode; one table of the run is left.
func TestEveryWidth(t *testing.T) {
	g := sample.From(23)
	for w := 64; w <= 1024; w += 64 {
		for _, o := range []api.Opts{{Width: w, Chunks: w / 32, Mode: 1}, {Width: w, Chunks: w / 8, Mode: 1}, {Width: w, Chunks: w/32 + 1, Mode: 1}, {Width: w, Mode: 2}} {
			d := disk.New(1 << 20)
			k, e := keep.Create(d, o)
			answers(t, "15.4: Create", e, api.OK)
			for id := range 9 {
				answers(t, "15.7: Insert", k.Insert(id*id, g.Text(w/8)), api.OK)
			}
			flush(t, k)
			answers(t, "15.8: Delete", k.Delete(9), api.OK)
			answers(t, "15.9: Sync", k.Sync(), api.OK)
			want := pairsOf(t, d)
			b := bothOf(t, fmt.Sprintf("%+v", o), d)
			if list, e := b.check(); len(list) != 0 || e != api.OK {
				t.Fatalf("23.1: %s: %v, %d", b.where, list, e)
			}
			left := g.Below(len(parts(o)))
			b.disks(func(d *disk.Disk) {
				lay(d, "r99.0", "")
				for j := range parts(o) {
					if j != left {
						d.Delete(rname(2, j))
					}
				}
			})
			b.check()
			b.repair()
			if got := pairsOf(t, b.d); !slices.Equal(got, want) {
				t.Fatalf("23.6: %s: %s, want %s", b.where, short(got), short(want))
			}
		}
	}
}
