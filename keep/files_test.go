package keep_test

import (
	"fmt"
	"slices"
	"testing"

	"kindred/api"
	"kindred/disk"
	"kindred/journal"
	"kindred/keep"
	"kindred/manifest"
	"kindred/run"
)

// refused: Open answers this, and not a byte and not a name is changed.
func refused(t *testing.T, where string, d *disk.Disk, want api.Errno) {
	t.Helper()
	was := seenOf(d)
	if k, e := keep.Open(d); k != nil || e != want || seenOf(d) != was {
		t.Fatalf("15.5: %s: Open: %d, want %d; it has written: %v", where, e, want, seenOf(d) != was)
	}
}

// strays are files of ours that no manifest names.
func strays(d *disk.Disk) {
	put(d, "j77", "left over")
	put(d, "r99.0", "")
	put(d, "manifest.new", "half")
}

// TestEveryByte: one byte of a store's files changed, a file cut short, something put behind it, a file missing.
func TestEveryByte(t *testing.T) {
	for _, o := range []api.Opts{{Width: 64, Chunks: 2, Mode: 1}, treed} {
		first := bothOn(t, "a store", 1<<20)
		stores(first, o, &history{})
		first.sync()
		image := first.d.Image()
		files := first.d.Names()
		opens := 0
		try := func(name, bytes string, gone bool) {
			t.Helper()
			b := bothOn(t, fmt.Sprintf("%s is %q", name, bytes), 0)
			for _, d := range []**disk.Disk{&b.d, &b.other} {
				*d, _ = disk.Open(image, 1<<20)
				put(*d, name, bytes)
				if gone {
					(*d).Delete(name)
				}
				strays(*d)
			}
			was := seenOf(b.d)
			e := b.open()
			switch {
			case e == api.OK && name != jname(first.m.m.Journal):
				t.Fatalf("15.5: %s: Open: %d", b.where, e)
			case e == api.OK:
				opens++
			case seenOf(b.d) != was:
				t.Fatalf("15.5: %s: a refused Open has written", b.where)
			case e == api.ErrNone && gone && name == "manifest":
			case e != api.ErrCorrupt:
				t.Fatalf("15.5: %s: Open: %d", b.where, e)
			}
		}
		for _, name := range files {
			bytes := bytesOf(first.d, name)
			for i := range len(bytes) {
				changed := []byte(bytes)
				changed[i] ^= 1 << (i % 8)
				try(name, string(changed), false)
				if i%3 == 0 {
					try(name, bytes[:i], false)
				}
			}
			try(name, bytes+"x", false)
			try(name, bytes+bytes, false)
			try(name, "", true)
		}
		if opens < 40 {
			t.Errorf("15.5: a bad tail of the journal: %d opened", opens)
		}
	}
}

// handMade puts the files of a store on a disk; what they say need not go.
func handMade(t *testing.T, d *disk.Disk, o api.Opts, runs [][]api.Entry, updates ...api.Update) {
	t.Helper()
	m := api.Manifest{Opts: o, Next: 50, Journal: 40}
	for i, list := range runs {
		info := api.RunInfo{Number: i + 1, Lo: 10 * i, Hi: 10*i + 10, Count: len(list)}
		m.Seq = info.Hi
		answers(t, "14.2: Write", run.Write(d, info.Number, o, info, byCode(slices.Clone(list))), api.OK)
		m.Runs = append(m.Runs, info)
	}
	put(d, "j40", journalOf(t, updates...))
	answers(t, "8.5: Store", manifest.Store(d, m), api.OK)
	strays(d)
}

// TestWordsThatDoNotGo: files that are right by themselves.
func TestWordsThatDoNotGo(t *testing.T) {
	word := func(c byte, id, seq int, dead bool) api.Entry {
		return api.Entry{Code: z(c), ID: id, Seq: seq, Dead: dead}
	}
	up := func(seq, id, c int) api.Update {
		return api.Update{Seq: seq, Kind: 1, ID: id, Code: z(byte(c))}
	}
	down := func(seq, id int) api.Update { return api.Update{Seq: seq, Kind: 2, ID: id} }
	for i, c := range []struct {
		runs    [][]api.Entry
		updates []api.Update
		want    api.Errno
		pairs   string
	}{
		{runs: nil, pairs: ""},
		{runs: [][]api.Entry{{word(1, 1, 1, false), word(2, 2, 2, false)}}, pairs: "1 1, 2 2"},
		{runs: [][]api.Entry{{word(1, 1, 2, false), word(2, 2, 2, false)}}, want: api.ErrCorrupt},                 // one number twice
		{runs: [][]api.Entry{{word(1, 1, 2, false), word(2, 2, 2, true)}}, want: api.ErrCorrupt},                  // of a dead one too
		{runs: [][]api.Entry{{word(1, 1, 1, false), word(2, 1, 2, false)}}, want: api.ErrCorrupt},                 // an id with two codes
		{runs: [][]api.Entry{{word(1, 1, 1, false)}, {word(2, 1, 12, false)}}, want: api.ErrCorrupt},              // of two runs
		{runs: [][]api.Entry{{word(1, 1, 1, false), word(2, 1, 2, true)}}, pairs: "1 1"},                          // one of them dead
		{runs: [][]api.Entry{{word(1, 1, 1, false), word(2, 1, 2, false)}, {word(1, 1, 15, true)}}, pairs: "1 2"}, // dead later
		{runs: [][]api.Entry{{word(1, 1, 1, true)}, {word(1, 1, 11, false)}}, pairs: "1 1"},
		{runs: [][]api.Entry{{word(1, 1, 1, false)}, {word(1, 1, 11, false)}}, pairs: "1 1"}, // put twice
		{runs: [][]api.Entry{{word(1, 1, 1, false)}, {word(1, 1, 11, true)}, {word(1, 1, 21, false)}}, pairs: "1 1"},
		{runs: [][]api.Entry{{word(1, 1, 1, false)}, {word(1, 1, 11, true)}, {word(0, 1, 21, false)}}, pairs: "1 0"},
		{runs: [][]api.Entry{{word(9, 1, 1, true), word(8, 5, 7, true)}}, pairs: ""}, // dead without ever having lived
		{runs: [][]api.Entry{{word(1, 1, 1, false)}}, updates: []api.Update{up(11, 2, 2), down(12, 1)}, pairs: "2 2"},
		{runs: [][]api.Entry{{word(1, 1, 1, false)}}, updates: []api.Update{up(11, 1, 2)}, want: api.ErrCorrupt}, // it lives
		{runs: [][]api.Entry{{word(1, 1, 1, false)}}, updates: []api.Update{up(11, 1, 1)}, want: api.ErrCorrupt},
		{runs: [][]api.Entry{{word(1, 1, 1, false)}}, updates: []api.Update{down(11, 2)}, want: api.ErrCorrupt}, // it does not
		{runs: [][]api.Entry{{word(1, 1, 1, false)}}, updates: []api.Update{down(11, 1), down(12, 1)}, want: api.ErrCorrupt},
		{runs: [][]api.Entry{{word(1, 1, 1, false)}}, updates: []api.Update{down(11, 1), up(12, 1, 7), down(13, 1), up(14, 1, 1)}, pairs: "1 1"},
		{runs: [][]api.Entry{{word(1, 1, 1, false)}}, updates: []api.Update{up(12, 2, 2)}, want: api.ErrCorrupt}, // a gap
		{runs: [][]api.Entry{{word(1, 1, 1, false)}}, updates: []api.Update{up(10, 2, 2)}, want: api.ErrCorrupt}, // a number that is in runs
		{updates: []api.Update{up(1, 2, 2), up(2, 3, 2), down(3, 2)}, pairs: "3 2"},
		{updates: []api.Update{{Seq: 1, Kind: 1, ID: 2, Code: z(1) + z(1)}}, want: api.ErrCorrupt}, // a code of another length
	} {
		for _, o := range []api.Opts{eight, treed} {
			b := bothOn(t, fmt.Sprintf("row %d of mode %d", i, o.Mode), 1<<20)
			b.disks(func(d *disk.Disk) { handMade(t, d, o, c.runs, c.updates...) })
			was := seenOf(b.d)
			if e := b.open(); e != c.want || e != api.OK && seenOf(b.d) != was {
				t.Fatalf("15.5: %s: Open: %d, want %d", b.where, e, c.want)
			}
			if c.want == api.OK && short(b.k.Pairs(0, 99)) != c.pairs {
				t.Fatalf("15.1: %s: %s, want %s", b.where, short(b.k.Pairs(0, 99)), c.pairs)
			}
			if c.want == api.OK {
				b.twice()
				b.insert(500, z(5))
				b.flush()
				b.twice()
			}
		}
	}
	// Two runs whose numbers overlap: then two entries could have one number.
	for _, hi := range []int{5, 6} {
		d := disk.New(9999)
		one, two := api.RunInfo{Number: 1, Hi: hi, Count: 1}, api.RunInfo{Number: 2, Lo: 5, Hi: 9, Count: 1}
		answers(t, "14.2: Write", run.Write(d, 1, treed, one, []api.Entry{word(1, 1, hi, false)}), api.OK)
		answers(t, "14.2: Write", run.Write(d, 2, treed, two, []api.Entry{word(2, 2, 6, false)}), api.OK)
		answers(t, "5.4: Create", d.Create("j3"), api.OK)
		m := api.Manifest{Opts: treed, Seq: 9, Next: 4, Journal: 3, Runs: []api.RunInfo{one, two}}
		if e := manifest.Store(d, m); (e == api.OK) != (hi == 5) {
			t.Fatalf("8.1: runs that overlap: %d", e)
		}
		if hi == 5 {
			if k, e := keep.Open(d); e != api.OK || k.Count() != 2 {
				t.Errorf("15.5: runs that follow: %d", e)
			}
		}
	}
}

// TestAnyFiles: made-up words in files that are right by themselves; Open takes them just if the chapter does.
func TestAnyFiles(t *testing.T) {
	took := map[api.Errno]int{}
	for seed := range 600 {
		g := from(seed)
		o := []api.Opts{treed, {Width: 64, Chunks: 2, Mode: 1}}[g.Below(2)]
		var runs [][]api.Entry
		for n := range g.Below(4) {
			words := map[api.Pair]api.Entry{}
			seqs := []int{1, 2, 3, 4, 5, 6, 7, 8, 9, 10}
			for range 1 + g.Below(5) {
				e := api.Entry{Code: z(byte(g.Below(2))), ID: g.Below(4), Dead: g.Below(3) == 0}
				i := g.Below(len(seqs))
				e.Seq = 10*n + seqs[i]
				if g.Below(12) > 0 {
					seqs = slices.Delete(seqs, i, i+1)
				}
				words[api.Pair{ID: e.ID, Code: e.Code}] = e
			}
			var list []api.Entry
			for _, e := range words {
				list = append(list, e)
			}
			runs = append(runs, byCode(list))
		}
		var updates []api.Update
		for i := range g.Below(4) {
			u := api.Update{Seq: 10*len(runs) + i + 1, Kind: 1 + g.Below(2), ID: g.Below(5)}
			if u.Kind == 1 {
				u.Code = z(byte(g.Below(2)))
			}
			updates = append(updates, u)
		}
		first := disk.New(1 << 20)
		handMade(t, first, o, runs, updates...)
		if g.Below(3) == 0 {
			first.Append("j40", "half a frame")
			first.Sync("j40")
		}
		b := bothOn(t, fmt.Sprintf("files %d: %+v, %+v", seed, runs, updates), 0)
		b.d, _ = disk.Open(first.Image(), 1<<20)
		b.other, _ = disk.Open(first.Image(), 1<<20)
		was := seenOf(b.d)
		e := b.open()
		took[e]++
		if e != api.OK && seenOf(b.d) != was {
			t.Fatalf("15.5: %s: a refused Open has written", b.where)
		}
		if e == api.OK {
			b.twice()
			b.flush()
			b.twice()
		}
	}
	if len(took) != 2 || took[api.OK] < 100 || took[api.ErrCorrupt] < 100 {
		t.Errorf("15.5: what was answered: %v", took)
	}
}

// TestTheTail: what stands behind the journal's updates is cut off, and nothing else.
func TestTheTail(t *testing.T) {
	for _, tail := range []string{"x", "half a frame", string(make([]byte, 100)), journalOf(t, api.Update{Seq: 4, Kind: 1, ID: 9, Code: z(9)})[:23]} {
		for n := range 3 {
			b := bothOn(t, fmt.Sprintf("the tail %q, cut at %d", tail, n), 9999)
			b.create(treed)
			for id := range 3 {
				b.insert(id, z(byte(id)))
			}
			size, _ := b.d.Size("j1")
			b.disks(func(d *disk.Disk) {
				d.Append("j1", tail)
				d.Sync("j1")
			})
			for _, done := range []bool{false, true} {
				b.arm(n, done)
				if e := b.open(); e == api.ErrDown {
					b.crash(nil)
				}
				b.arm(0, false)
			}
			answers(t, "15.5: Open", b.open(), api.OK)
			if now, _ := b.d.Size("j1"); now != size || b.k.Seq() != 3 {
				t.Errorf("15.5: %s: %d bytes, want %d", b.where, now, size)
			}
			b.insert(3, z(3))
			b.twice()
		}
	}
}

// TestNothingIsSynced: Open leaves what is unsynced so.
func TestNothingIsSynced(t *testing.T) {
	d := disk.New(9999)
	k, _ := keep.Create(d, treed)
	k.Insert(1, z(1))
	k.Sync()
	k.Insert(2, z(2))
	again, e := keep.Open(d)
	if e != api.OK || again.Count() != 2 || again.Synced() != 0 || again.Seq() != 2 {
		t.Fatal("15.5:", e, again.Synced())
	}
	d.Crash(nil)
	if last, e := keep.Open(d); e != api.OK || last.Count() != 1 {
		t.Fatal("15.5: Open has synced:", e)
	}
	// The journal of another number and place is no journal of the store.
	answers(t, "4.9: Rename", d.Rename("j1", "j2"), api.OK)
	refused(t, "the journal has another name", d, api.ErrCorrupt)
	if _, _, e := journal.Look(d, 2, 0, 64); e != api.OK {
		t.Error("5.5:", e)
	}
}
