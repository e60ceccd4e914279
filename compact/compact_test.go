package compact_test

import (
	"fmt"
	"slices"
	"strings"
	"testing"

	"kindred/api"
	"kindred/block"
	"kindred/compact"
	"kindred/disk"
	"kindred/keep"
	"kindred/run"
)

var (
	eight = api.Opts{Width: 64, Chunks: 8, Mode: 1}
	two   = api.Opts{Width: 64, Chunks: 2, Mode: 1}
	treed = api.Opts{Width: 64, Mode: 2}
)

// z is a code of 64 bits, its last byte this one.
func z(last byte) string { return strings.Repeat("\x00", 7) + string([]byte{last}) }

// same is a code of 64 bits whose bytes are all this one.
func same(c byte) string { return strings.Repeat(string([]byte{c}), 8) }

// code is a number as a code of 64 bits, its low bits in both halves.
func code(n int) string {
	return string([]byte{0, 0, byte(n), 0, byte(n >> 24), byte(n >> 16), byte(n >> 8), byte(n)})
}

// names are those of a store's files.
func names(journal, tables int, runs ...int) []string {
	list := []string{"manifest", fmt.Sprint("j", journal)}
	for _, number := range runs {
		for j := range tables {
			list = append(list, rname(number, j))
		}
	}
	slices.Sort(list)
	return list
}

func (b *both) hasNames(promise string, want []string) {
	b.t.Helper()
	if got := b.k.Disk().Names(); !slices.Equal(got, want) {
		b.t.Fatalf("%s: %s: %q, want %q", promise, b.where, got, want)
	}
}

func (b *both) hasLeft(want int) {
	b.t.Helper()
	if got := b.c.Left(); got != want {
		b.t.Fatalf("16.7: %s: %d are left, want %d", b.where, got, want)
	}
}

// refused makes a Step that is refused.
func (b *both) refused(promise string, want api.Errno) {
	b.t.Helper()
	if done, e := b.step(); done || e != want {
		b.t.Fatalf("%s: %s: Step: %v, %d, want %d", promise, b.where, done, e, want)
	}
}

// twoRuns is a store with a dead entry in the second of its runs, 2 and 4, and the journal 5.
func twoRuns(b *both) {
	b.t.Helper()
	w := b.k.Seen().Width / 8
	b.insert(5, strings.Repeat("\x00", w))
	b.insert(6, strings.Repeat("\x01", w))
	b.flush()
	b.delete(6)
	b.insert(7, strings.Repeat("\x03", w))
	b.flush()
}

func TestExamples(t *testing.T) {
	if compact.New(nil) != nil {
		t.Error("16.1: New(nil)")
	}
	b := bothOn(t, "the examples", eight, 1000000)
	b.hasLeft(0)
	if done, e := b.step(); !done || e != api.OK {
		t.Errorf("16.2: without pairs: %v, %d", done, e)
	}
	b.insert(5, z(0))
	b.insert(6, z(1))
	b.hasLeft(11)
	b.steps(1)
	b.hasLeft(0)
	b.delete(6)
	b.insert(7, z(3))
	b.hasLeft(11)
	b.steps(1)
	b.hasLeft(10)
	if b.c.Busy() {
		t.Error("16.6: Busy behind a Flush")
	}
	b.steps(1)
	b.hasLeft(9)
	if !b.c.Busy() {
		t.Error("16.6: not Busy behind a beginning")
	}
	b.hasNames("16.4", names(5, 8, 2, 4))
	b.steps(8)
	b.hasNames("16.3", names(5, 8, 2, 4, 6))
	b.insert(8, z(0))
	b.hasLeft(1 + 1 + 2 + 8)
	b.steps(1)
	b.hasNames("16.3", names(5, 8, 6))
	if b.c.Busy() {
		t.Error("16.6: Busy behind the swap")
	}
	if want := []api.RunInfo{{Number: 6, Lo: 0, Hi: 4, Count: 2}}; !slices.Equal(b.k.Seen().Runs, want) {
		t.Errorf("16.3: %+v, want %+v", b.k.Seen().Runs, want)
	}
	b.steps(4)
	if e := b.drop(); e != api.OK {
		t.Errorf("16.6: Drop: %d", e)
	}
	b.hasNames("16.6", names(8, 8, 6, 7))
	for _, id := range []int{5, 7, 8} {
		b.delete(id)
	}
	b.toTheEnd()
	b.hasNames("16.8", names(b.k.Seen().Journal, 8))
}

// TestNothing: of no compactor, and over no keep, every call ends.
func TestNothing(t *testing.T) {
	var none *compact.Compactor
	for i, c := range []*compact.Compactor{none, {}, compact.New(&keep.Keep{})} {
		for range 2 {
			if done, e := c.Step(); done || e != api.ErrDown {
				t.Errorf("R1: compactor %d: Step: %v, %d", i, done, e)
			}
			if e := c.Drop(); e != api.ErrDown || c.Busy() || c.Left() != 0 {
				t.Errorf("R1: compactor %d: Drop: %d, Busy %v, Left %d", i, e, c.Busy(), c.Left())
			}
		}
	}
}

// TestNewWritesNothing, nor do the questions.
func TestNewWritesNothing(t *testing.T) {
	for _, o := range []api.Opts{eight, treed} {
		d := disk.New(1 << 20)
		k, _ := keep.Create(d, o)
		for id := range 9 {
			k.Insert(id, z(byte(id)))
			if id%4 == 3 {
				k.Flush()
			}
		}
		was, told := seenOf(d), keptOf(k)
		for range 3 {
			if c := compact.New(k); c == nil || c.Busy() || c.Left() == 0 || c.Drop() != api.OK {
				t.Fatal("16.1: New")
			}
		}
		if seenOf(d) != was || keptOf(k) != told {
			t.Error("16.1: New, Busy, Left or Drop has written")
		}
	}
}

// TestPieces: so many entries live and so many are dead, on either side of U and of its multiples.
func TestPieces(t *testing.T) {
	for _, o := range []api.Opts{treed, two, {Width: 64, Chunks: 3, Mode: 1}} {
		for _, live := range []int{0, 1, 2, 255, 256, 257, 511, 512, 513, 768, 769} {
			for _, gone := range []int{1, 2, 255, 256, 257} {
				pieces(t, o, live, gone)
			}
		}
	}
}

// pieces: a compaction of this store, its writes told piece by piece.
func pieces(t *testing.T, o api.Opts, live, gone int) {
	t.Helper()
	b := bothOn(t, fmt.Sprintf("%+v, %d live, %d are dead", o, live, gone), o, 1<<24)
	b.quiet = true
	for id := range live + gone {
		b.insert(id, code(id*7919))
	}
	b.flush()
	for id := range gone {
		b.delete(id * (live + gone) / gone)
	}
	b.flush()
	tables := max(1, o.Chunks)
	b.hasLeft(2 + tables*((live+2*gone+255)/256))
	d := b.k.Disk()
	wrote := func(want int) {
		t.Helper()
		was := d.Writes()
		b.steps(1)
		if got := d.Writes() - was; got != want {
			t.Fatalf("16.3: %s: %d writes, want %d", b.where, got, want)
		}
	}
	wrote(0)
	made := []int{6}
	if live == 0 {
		made = nil
		wrote(0)
	}
	for range tables * len(made) {
		for range (live - 1) / 256 {
			wrote(0)
		}
		wrote(3)
	}
	b.hasLeft(1)
	b.hasNames("16.3", names(5, tables, append(made, 2, 4)...))
	b.quiet = false
	wrote(4 + 2*tables)
	b.hasLeft(0)
	b.hasNames("16.3", names(5, tables, made...))
	if live > 0 {
		heads(b, live)
	}
	b.isClean()
}

// heads: what the new files say of themselves.
func heads(b *both, count int) {
	b.t.Helper()
	o := b.k.Seen().Opts
	from := 0
	for j := range b.m.tables() {
		size := (o.Width - from) / (b.m.tables() - j)
		if (o.Width-from)%(b.m.tables()-j) > 0 {
			size++
		}
		from += size
		if o.Mode == 2 {
			size = 1
		}
		f, e := block.Open(bytesOf(b.k.Disk(), rname(6, j)))
		want := api.Head{Width: o.Width, Table: j, Bits: size, Lo: 0, Hi: b.k.Seq(), Count: count}
		if e != api.OK || f.Head() != want {
			b.t.Fatalf("16.3: %s: table %d: %d, %+v, want %+v", b.where, j, e, f.Head(), want)
		}
	}
}

// TestManyTables: of all widths with as few and as many chunks as go, and such with chunks of two sizes.
func TestManyTables(t *testing.T) {
	for w := 64; w <= 1024; w += 64 {
		for _, m := range []int{w / 32, w/32 + 1, w/8 - 1, w / 8} {
			b := bothOn(t, fmt.Sprintf("width %d, %d chunks", w, m), api.Opts{Width: w, Chunks: m, Mode: 1}, 1<<22)
			b.quiet = w > 128
			twoRuns(b)
			b.steps(1 + m)
			heads(b, 2)
			b.steps(1)
			b.hasNames("16.3", names(5, m, 6))
			b.isClean()
		}
	}
}

// TestOneRun: one run with dead entries is made anew, one without is let be.
func TestOneRun(t *testing.T) {
	for _, o := range []api.Opts{treed, two} {
		b := bothOn(t, "one run", o, 1<<20)
		b.insert(1, z(1))
		b.insert(2, z(2))
		b.delete(1)
		b.flush()
		if len(b.k.Runs()) != 1 || b.k.Runs()[0].Dead() != 1 {
			t.Fatal("15.10: no dead entry")
		}
		b.hasLeft(2 + max(1, o.Chunks))
		b.toTheEnd()
		b.hasNames("16.8", names(3, max(1, o.Chunks), 4))
		b.delete(2)
		b.flush()
		b.toTheEnd()
		b.hasNames("16.8", names(6, max(1, o.Chunks)))
		b.insert(3, z(3))
		b.delete(3)
		b.toTheEnd()
	}
}

// TestFewerPieces: Left reckons with all entries, of which few may be left.
func TestFewerPieces(t *testing.T) {
	b := bothOn(t, "all are dead", two, 1<<24)
	b.quiet = true
	for id := range 300 {
		b.insert(id, code(id))
	}
	b.flush()
	for id := range 300 {
		b.delete(id)
	}
	b.flush()
	b.hasLeft(2 + 2*3)
	b.steps(1)
	b.hasLeft(1 + 2*3)
	b.steps(1)
	b.hasLeft(1)
	if names := b.k.Disk().Names(); len(names) != 2+2*2 {
		t.Errorf("16.3: a file without entries: %q", names)
	}
	b.steps(1)
	b.hasLeft(0)
	b.hasNames("16.3", names(5, 2))
}

// TestMostRuns: with MaxRuns runs a compaction comes ahead of the flush.
func TestMostRuns(t *testing.T) {
	for _, words := range []int{0, 1, 232, 233, 600} {
		b := bothOn(t, fmt.Sprintf("24 runs, %d words wait", words), two, 1<<20)
		b.quiet = true
		for id := range 24 {
			b.insert(id, z(byte(id)))
			b.flush()
		}
		for i := range words {
			b.insert(99+i, code(i))
		}
		want := 2 + 2
		if words > 0 {
			want += 3 + 2*((24+words+255)/256)
		}
		b.hasLeft(want)
		writes := b.k.Disk().Writes()
		b.steps(1)
		if !b.c.Busy() || b.k.Disk().Writes() != writes {
			t.Fatalf("16.2: %s: no compaction has begun", b.where)
		}
		b.hasLeft(want - 1)
		b.toTheEnd()
	}
	// With one run less the flush comes first.
	b := bothOn(t, "23 runs", two, 1<<20)
	for id := range 23 {
		b.insert(id, z(byte(id)))
		b.flush()
	}
	b.insert(99, z(0))
	b.hasLeft(3 + 2)
	b.steps(1)
	if b.c.Busy() || len(b.k.Runs()) != 24 {
		t.Fatal("16.2: 23 runs: no flush")
	}
	b.toTheEnd()
}

// TestRunsOfOthers: others flush while a compaction is under way; it goes on with those that it has taken.
func TestRunsOfOthers(t *testing.T) {
	for _, more := range []int{1, 2, 21, 22, 23} {
		for ahead := range 6 {
			b := bothOn(t, fmt.Sprintf("%d runs of others behind %d pieces", more, ahead), two, 1<<20)
			b.insert(1, z(1))
			b.insert(2, z(2))
			b.delete(1)
			b.flush()
			if more < 23 {
				b.insert(3, z(3))
				b.flush()
			}
			b.steps(1 + min(ahead, 2))
			for i := range more {
				b.insert(100+i, z(byte(i)))
				if i%2 == 1 {
					b.delete(99 + i)
				}
				b.flush()
			}
			if ahead > 2 { // updates that wait, too
				b.insert(50, z(50))
				b.delete(2)
			}
			b.toTheEnd()
		}
	}
}

// TestUpdatesBetween: updates between the Steps go into the journal, and count more than what the taken runs say.
func TestUpdatesBetween(t *testing.T) {
	for _, o := range []api.Opts{two, treed} {
		for at := range 9 {
			b := bothOn(t, fmt.Sprintf("%+v, updates behind Step %d", o, at), o, 1<<20)
			twoRuns(b)
			for i := range 9 {
				if i == at {
					b.delete(5)
					b.insert(6, same(1)) // which the second run tells dead
					b.insert(5, z(9))
					b.delete(7)
					b.insert(7, same(3))
				}
				b.step()
			}
			b.toTheEnd()
			want := []api.Pair{{ID: 5, Code: z(9)}, {ID: 6, Code: same(1)}, {ID: 7, Code: same(3)}}
			if got := b.k.Pairs(0, 99); !slices.Equal(got, want) {
				t.Errorf("16.10: %s: %q", b.where, fmt.Sprint(got))
			}
		}
	}
}

// TestLastWords: of a pair that was put again and again the last word counts, with its number.
func TestLastWords(t *testing.T) {
	for _, o := range []api.Opts{two, treed} {
		b := bothOn(t, "last words", o, 1<<20)
		seqs := map[int]int{}
		put := func(id int) {
			b.insert(id, z(byte(id%3)))
			seqs[id] = b.k.Seq()
		}
		for id := range 9 {
			put(id)
		}
		b.flush()
		for _, id := range []int{8, 2, 5} {
			b.delete(id)
		}
		put(2)
		b.flush()
		for _, id := range []int{2, 7} {
			b.delete(id)
		}
		b.flush()
		put(2)
		put(8)
		b.toTheEnd()
		for _, x := range b.k.Runs()[0].All(0) {
			if x.Seq != seqs[x.ID] {
				t.Errorf("16.9: %d has the number %d, want %d", x.ID, x.Seq, seqs[x.ID])
			}
		}
		if info := b.k.Runs()[0].Info(); info.Count != 7 || info.Lo != 0 || info.Hi != b.k.Seq() {
			t.Errorf("16.9: %+v", info)
		}
	}
}

// TestCertain: a Flush makes updates certain, a compaction's own Steps do not.
func TestCertain(t *testing.T) {
	b := bothOn(t, "certain", two, 1<<20)
	twoRuns(b)
	synced := b.k.Synced()
	b.steps(1)
	b.insert(9, z(9))
	b.steps(3)
	if b.c.Busy() || b.k.Synced() != synced || b.k.Seq() != synced+1 {
		t.Errorf("16.9: Synced %d, Seq %d behind a compaction", b.k.Synced(), b.k.Seq())
	}
	b.steps(1)
	if b.k.Synced() != synced+1 {
		t.Errorf("16.9: Synced %d behind a Flush", b.k.Synced())
	}
}

// TestBounds: 16.8's bounds, and that Left falls, over stores of all kinds.
func TestBounds(t *testing.T) {
	for seed := range 60 {
		g := from(seed)
		o := g.opts()
		b := bothOn(t, fmt.Sprint("bounds ", seed), o, 1<<24)
		b.quiet = true
		for range g.Below(26) {
			for range 1 + g.Below(60) {
				id := g.Below(200)
				if b.k.Insert(id, b.code(id)) == api.OK {
					b.m.k.Insert(id, b.code(id))
				} else {
					b.delete(id)
				}
			}
			if len(b.k.Runs()) < 24 {
				b.flush()
			}
			if g.Below(4) == 0 {
				b.step()
			}
		}
		e, _, _ := b.m.reckoned()
		if left := b.c.Left(); left > 6+3*b.m.p(e) {
			t.Errorf("16.8: %s: %d are left, of %d entries", b.where, left, e)
		}
		b.toTheEnd()
	}
}

// code is that of an id, of the store's width.
func (b *both) code(id int) string {
	return strings.Repeat(string([]byte{byte(id), byte(id >> 8)}), b.k.Seen().Width/16)
}

// TestOnlyTheCompactorFlushes: then 16.8's lower bound holds at all times.
func TestOnlyTheCompactorFlushes(t *testing.T) {
	for seed := range 40 {
		g := from(seed)
		b := bothOn(t, fmt.Sprint("no other flushes ", seed), g.opts(), 1<<24)
		b.quiet = true
		for range 300 {
			id := g.Below(60)
			if b.k.Insert(id, b.code(id)) == api.OK {
				b.m.k.Insert(id, b.code(id))
			} else {
				b.delete(id)
			}
			if g.Below(3) == 0 {
				b.step()
			}
			e, _, _ := b.m.reckoned()
			if left := b.c.Left(); left > 5+2*b.m.p(e) {
				t.Fatalf("16.8: %s: %d are left, of %d entries", b.where, left, e)
			}
		}
		b.toTheEnd()
	}
}

// TestMany: a flush of very many words, and dead ones in it, over many pieces.
func TestMany(t *testing.T) {
	const count = 20000
	for _, o := range []api.Opts{treed, two} {
		b := bothOn(t, fmt.Sprintf("many, %+v", o), o, 1<<26)
		b.quiet = true
		for id := range count {
			b.insert(id, code(id*40503))
		}
		b.flush()
		for id := 0; id < count; id += 3 {
			b.delete(id)
		}
		b.insert(count, code(5))
		tables := max(1, o.Chunks)
		left := 3 + tables*((count+count/3+2+255)/256)
		b.hasLeft(left)
		b.steps(1)
		steps := 0
		for b.c.Left() > 0 {
			b.steps(1)
			steps++
		}
		live := b.k.Count()
		if want := 2 + tables*((live+255)/256); steps != want {
			t.Errorf("16.3: %s: %d Steps, want %d", b.where, steps, want)
		}
		if x, y := b.k.Disk().Image(), b.m.k.Disk().Image(); x != y {
			t.Errorf("16.3: %s: other bytes than there should be", b.where)
		}
		b.isClean()
	}
}

// TestTwoKeeps: compactors over two stores have nothing to do with each other.
func TestTwoKeeps(t *testing.T) {
	x, y := bothOn(t, "the first", two, 1<<20), bothOn(t, "the second", treed, 1<<20)
	twoRuns(x)
	twoRuns(y)
	for range 6 {
		x.step()
		y.step()
	}
	x.toTheEnd()
	y.toTheEnd()
}

// TestReadsRunsOnly: a compaction is made of the runs as they are in memory, whatever stands in their files by then; run.Open of the new files reads.
func TestReadsRunsOnly(t *testing.T) {
	b := bothOn(t, "lost files", two, 1<<20)
	twoRuns(b)
	b.steps(1)
	b.disks(func(d *disk.Disk) { run.Delete(d, 2, two) })
	b.steps(3)
	b.hasNames("16.3", names(5, 2, 6))
	b.isClean()
}
