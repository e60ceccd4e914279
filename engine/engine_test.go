package engine_test

import (
	"fmt"
	"math"
	"slices"
	"strings"
	"testing"
	"unsafe"

	"kindred/api"
	"kindred/disk"
	"kindred/engine"
)

var (
	eight = api.Opts{Width: 64, Chunks: 8, Mode: 1}
	two   = api.Opts{Width: 64, Chunks: 2, Mode: 1}
	treed = api.Opts{Width: 64, Mode: 2}
)

// answers: a call answered this.
func answers(t *testing.T, what string, got, want api.Errno) {
	t.Helper()
	if got != want {
		t.Fatalf("%s: %d, want %d", what, got, want)
	}
}

// isTold: what was answered, written down, is this.
func isTold(t *testing.T, what, want string, got ...any) {
	t.Helper()
	if s := fmt.Sprintf("%v", got); s != "["+want+"]" {
		t.Fatalf("%s: %q, want %q", what, s, "["+want+"]")
	}
}

// brief are hits without their codes.
func brief(list []api.Hit) string {
	var b strings.Builder
	for _, h := range list {
		fmt.Fprintf(&b, "%d:%d ", h.Dist, h.ID)
	}
	return b.String()
}

func TestExamples(t *testing.T) {
	b := bothOn(t, "the examples", 1000000)
	answers(t, "17.1: Open of an empty disk", b.open(), api.ErrNone)
	answers(t, "17.1: a width of 63", b.create(api.Opts{Width: 63}), api.ErrWidth)
	answers(t, "17.1: Create", b.create(eight), api.OK)
	answers(t, "17.1: Create again", b.create(eight), api.ErrTaken)
	for _, x := range []struct {
		got, want api.Errno
	}{{b.insert(5, z(0)), 0}, {b.insert(2, z(3)), 0}, {b.insert(9, z(0)), 0}, {b.insert(5, z(1)), api.ErrTwice}, {b.insert(7, "x"), api.ErrCode}, {b.delete(6), api.ErrGone}} {
		answers(t, "17.4", x.got, x.want)
	}
	code, e := b.e.Get(2)
	isTold(t, "17.5, 17.8", fmt.Sprint(z(3), " 0 3 2 3 0"), code, int(e), b.e.Count(), b.e.Codes(), b.e.Seq(), b.e.Synced())
	examples(b)
	hits, stats, e := b.e.Few(z(1), 1, 0)
	isTold(t, "17.7: no shell", " {0 0 0 0} 0", brief(hits), stats, int(e))
	hits, stats, e = b.e.Few(z(1), 1, 1)
	isTold(t, "17.7: one shell", "1:2  {1 8 2 3} 0", brief(hits), stats, int(e))
	done, e := b.step()
	isTold(t, "17.4: a flush", "false 0", done, int(e))
	done, e = b.step()
	isTold(t, "17.4: nothing to do", "true 0", done, int(e))
	examples(b)
	list, e := b.e.Pairs(3, 1)
	isTold(t, "17.5", fmt.Sprint("[{5 ", z(0), "}] 0"), list, int(e))
	list, e = b.e.Pairs(0, 9)
	isTold(t, "17.5", fmt.Sprint("[{2 ", z(3), "} {5 ", z(0), "} {9 ", z(0), "}] 0"), list, int(e))
	updates, ok := b.e.Tail(3)
	isTold(t, "17.8: Tail(3)", "0 true", len(updates), ok)
	updates, ok = b.e.Tail(0)
	isTold(t, "17.8: Tail(0), Synced", "0 false 3", len(updates), ok, b.e.Synced())
	answers(t, "17.3: Close", b.close(), api.OK)
	answers(t, "17.3: Close again", b.e.Close(), api.ErrClosed)
	_, _, e = b.e.TopK(z(0), 3)
	updates, ok = b.e.Tail(3)
	isTold(t, "17.8: behind Close", "170 3 3 0 false", int(e), b.e.Count(), b.e.Seq(), len(updates), ok)
	answers(t, "17.1: Open", b.open(), api.OK)
	examples(b)
}

// examples are the chapter's searches.
func examples(b *both) {
	b.t.Helper()
	tells := "{1 8 2 3}"
	if b.e.Opts().Mode == api.Treed {
		tells = "{0 0 0 0}"
	}
	hits, stats, e := b.e.TopK(z(0), 1)
	isTold(b.t, "17.6: TopK(z, 1)", "0:5  "+tells+" 0", brief(hits), stats, int(e))
	hits, stats, e = b.e.TopK(z(0), 3)
	isTold(b.t, "17.6: TopK(z, 3)", "0:5 0:9 2:2  "+tells+" 0", brief(hits), stats, int(e))
	hits, stats, e = b.e.Radius(z(1), 1)
	isTold(b.t, "17.6: Radius(1, 1)", "1:2 1:5 1:9  "+tells+" 0", brief(hits), stats, int(e))
}

func TestTreedExamples(t *testing.T) {
	b := bothOver(t, "the examples, Treed", treed)
	b.must("Insert", b.insert(5, z(0)))
	b.must("Insert", b.insert(2, z(3)))
	b.must("Insert", b.insert(9, z(0)))
	examples(b)
	_, _, e := b.e.Few(z(0), 1, 1)
	answers(t, "17.7: Few", e, api.ErrMode)
}

// TestMakingRefuses: what Create refuses, and Open of files that do not go together; then nothing has changed.
func TestMakingRefuses(t *testing.T) {
	for _, x := range []struct {
		o    api.Opts
		want api.Errno
	}{{api.Opts{}, api.ErrWidth}, {api.Opts{Width: 1088, Chunks: 99, Mode: 9}, api.ErrWidth}, {api.Opts{Width: 64, Chunks: 9, Mode: 3}, api.ErrMode}, {api.Opts{Width: 64, Chunks: 9, Mode: 1}, api.ErrChunks}, {api.Opts{Width: 64, Chunks: 1, Mode: 1}, api.ErrChunks}, {api.Opts{Width: 64, Chunks: 2, Mode: 2}, api.ErrChunks}} {
		b := bothOn(t, fmt.Sprintf("%+v", x.o), 1000)
		answers(t, "17.1: "+b.where, b.create(x.o), x.want)
		answers(t, "17.1: Open behind "+b.where, b.open(), api.ErrNone)
	}
	b := bothOver(t, "a spoilt manifest", two)
	b.disks(func(d *disk.Disk) { put(d, "manifest", "nothing that is one") })
	was := seenOf(b.d)
	answers(t, "17.1: "+b.where, b.open(), api.ErrCorrupt)
	answers(t, "17.1: "+b.where, b.create(two), api.ErrTaken)
	if seenOf(b.d) != was {
		t.Fatalf("17.1: %s: something was written", b.where)
	}
	b = bothOn(t, "no power", 1000)
	b.arm(1, false)
	b.disks(func(d *disk.Disk) { d.Create("a") })
	answers(t, "17.1: Create without power", b.create(two), api.ErrDown)
	answers(t, "17.1: Open without power", b.open(), api.ErrDown)
}

// TestOneAppend: an update is one write, a question none, Close the Sync's.
func TestOneAppend(t *testing.T) {
	for _, o := range []api.Opts{two, eight, treed} {
		b := bothOver(t, fmt.Sprintf("%+v", o), o)
		writes := b.d.Writes()
		counts := func(what string, n int) {
			t.Helper()
			if got := b.d.Writes() - writes; got != n {
				t.Fatalf("17.4: %s: %s: %d writes, want %d", b.where, what, got, n)
			}
			writes = b.d.Writes()
		}
		b.must("Insert", b.insert(5, z(0)))
		counts("Insert", 1)
		b.must("Insert", b.insert(6, z(0)))
		counts("Insert", 1)
		b.must("Delete", b.delete(5))
		counts("Delete", 1)
		b.delete(5)
		b.insert(6, z(1))
		b.insert(7, "x")
		counts("refused updates", 0)
		b.must("Sync", b.sync())
		counts("Sync", 1)
		b.must("Close", b.close())
		counts("Close", 1)
		b.must("Open", b.open())
		counts("Open", 0)
	}
}

// TestCloseAmidACompaction: its files stay, the next Open takes them away.
func TestCloseAmidACompaction(t *testing.T) {
	for _, o := range []api.Opts{two, treed} {
		b := bothOver(t, fmt.Sprintf("%+v", o), o)
		twoRuns(b)
		b.must("Insert", b.insert(8, z(9)))
		clean := b.d.Names()
		b.sync()
		for range 2 { // what waits becomes a run, and then a compaction begins
			b.step()
		}
		b.step()
		busy := b.d.Names()
		if slices.Equal(busy, clean) || !slices.Contains(busy, "r8.0") {
			t.Fatalf("17.4: %s: %q", b.where, busy)
		}
		b.must("Close", b.close())
		if !slices.Equal(b.d.Names(), busy) {
			t.Fatalf("17.3: %s: Close has left %q of %q", b.where, b.d.Names(), busy)
		}
		b.must("Open", b.open())
		if slices.Contains(b.d.Names(), "r8.0") {
			t.Fatalf("17.3: %s: Open has left %q", b.where, b.d.Names())
		}
		b.toTheEnd()
	}
}

// twoRuns is a store with a dead entry in the second of its runs, 2 and 4, and the journal 5.
func twoRuns(b *both) {
	b.t.Helper()
	b.must("Insert", b.insert(5, z(0)))
	b.must("Insert", b.insert(6, z(1)))
	b.step()
	b.must("Delete", b.delete(6))
	b.must("Insert", b.insert(7, z(3)))
	b.step()
}

// toTheEnd compacts until there is nothing to do; the pairs stay, and further steps write nothing.
func (b *both) toTheEnd() {
	b.t.Helper()
	for left := b.c.Left(); ; left-- {
		done, e := b.step()
		b.must("CompactStep", e)
		if done {
			break
		}
		if left <= 0 {
			b.t.Fatalf("17.4: %s: compacting does not end", b.where)
		}
	}
	was := seenOf(b.d)
	if done, e := b.step(); !done || e != api.OK || seenOf(b.d) != was {
		b.t.Fatalf("17.4: %s: with nothing to do: %v, %d", b.where, done, e)
	}
	if b.e.Synced() != b.e.Seq() {
		b.t.Fatalf("17.8: %s: %d of %d synced", b.where, b.e.Synced(), b.e.Seq())
	}
}

// TestClosed: an engine in every state is closed; what it tells then is what it told, and it stays so whatever becomes of the disk.
func TestClosed(t *testing.T) {
	states := map[string]func(b *both){
		"empty":    func(b *both) {},
		"unsynced": func(b *both) { b.insert(8, z(8)) },
		"synced":   func(b *both) { b.insert(8, z(8)); b.sync() },
		"flushed":  func(b *both) { b.insert(8, z(8)); b.step() },
		"without power": func(b *both) {
			b.insert(8, z(8))
			b.arm(1, true)
			b.insert(9, z(9))
		},
		"given up": func(b *both) { b.insert(8, z(8)); b.crash(nil) },
		"power goes at Close": func(b *both) {
			b.insert(8, z(8))
			b.arm(1, true)
		},
		"its journal is gone": func(b *both) {
			b.insert(8, z(8))
			b.disks(func(d *disk.Disk) { d.Delete(fmt.Sprint("j", b.k.Seen().Journal)) })
		},
	}
	for _, o := range []api.Opts{two, treed} {
		for name, state := range states {
			b := bothOver(t, fmt.Sprintf("%s, %+v", name, o), o)
			twoRuns(b)
			state(b)
			synced, seq, count, codes := b.e.Synced(), b.e.Seq(), b.e.Count(), b.e.Codes()
			e := b.close()
			switch name {
			case "without power", "given up", "power goes at Close":
				answers(t, "17.3: "+b.where, e, api.ErrDown)
			case "its journal is gone":
				answers(t, "17.3: "+b.where, e, api.ErrNone)
			default:
				answers(t, "17.3: "+b.where, e, api.OK)
				synced = seq
			}
			told := fmt.Sprint(synced, seq, count, codes, o)
			for range 2 {
				if now := fmt.Sprint(b.e.Synced(), b.e.Seq(), b.e.Count(), b.e.Codes(), b.e.Opts()); now != told {
					t.Fatalf("17.8: %s: it tells %s, told %s", b.where, now, told)
				}
				answers(t, "17.2: Close again, "+b.where, b.e.Close(), api.ErrClosed)
				b.crash(nil)
				b.agree("Close and a power cut")
				engine.Open(b.d)
			}
		}
	}
}

// TestGivenUp: the power goes in every call; what the engine tells from then on is what it told ahead of it, asked before or not, and a new engine over the same disk is not seen in it.
func TestGivenUp(t *testing.T) {
	calls := map[string]func(b *both){
		"Insert":      func(b *both) { b.insert(11, z(9)) },
		"Delete":      func(b *both) { b.delete(7) },
		"Sync":        func(b *both) { b.sync() },
		"CompactStep": func(b *both) { b.step() },
	}
	for _, o := range []api.Opts{two, treed} {
		for name, call := range calls {
			for n := 1; ; n++ {
				b := bothOver(t, fmt.Sprintf("%s, %+v, cut at write %d", name, o, n), o)
				twoRuns(b)
				b.must("Insert", b.insert(8, z(8)))
				told := fmt.Sprint(b.e.Synced(), b.e.Seq(), b.e.Count(), b.e.Codes(), b.e.Opts())
				tail, _ := b.e.Tail(4)
				b.quiet = true
				b.arm(n, true)
				call(b)
				if !b.d.Down() {
					break
				}
				b.crash([]api.Cut{{Name: "j5", Keep: 999}})
				other, e := engine.Open(b.d)
				answers(t, "17.12: Open, "+b.where, e, api.OK)
				answers(t, "17.4", other.Insert(12, z(77)), api.OK)
				answers(t, "17.3", other.Close(), api.OK)
				if now := fmt.Sprint(b.e.Synced(), b.e.Seq(), b.e.Count(), b.e.Codes(), b.e.Opts()); now != told {
					t.Fatalf("17.8: %s: it tells %s, told %s", b.where, now, told)
				}
				if now, ok := b.e.Tail(4); !ok || !slices.Equal(now, tail) || len(tail) != 1 {
					t.Fatalf("17.8: %s: Tail %v, %v", b.where, now, ok)
				}
				b.gone("it was given up", api.ErrDown)
				answers(t, "17.3: "+b.where, b.e.Close(), api.ErrDown)
				answers(t, "17.3: "+b.where, b.e.Close(), api.ErrClosed)
				if list, ok := b.e.Tail(4); ok || len(list) != 0 {
					t.Fatalf("17.8: %s: closed: Tail %v, %v", b.where, list, ok)
				}
			}
		}
	}
}

// TestNobodysEngine: calls on what Create and Open have not made end, and have nothing to tell.
func TestNobodysEngine(t *testing.T) {
	for _, e := range []*engine.Engine{nil, {}} {
		if e.Count() != 0 || e.Codes() != 0 || e.Seq() != 0 || e.Synced() != 0 || e.Opts() != (api.Opts{}) {
			t.Error("17.8: nobody's engine tells something")
		}
		for name, call := range allCalls(e, 64) {
			if beside, refusal := call(); beside != "" || refusal == api.OK {
				t.Errorf("nobody's engine: %s: %q, %d", name, beside, refusal)
			}
		}
		if list, ok := e.Tail(0); len(list) != 0 || ok || e.Close() == api.OK {
			t.Errorf("nobody's engine: Tail: %v, %v", list, ok)
		}
	}
}

// loose is a text that shares its bytes' memory, as no program but a test's has one.
func loose(b []byte) string { return unsafe.String(&b[0], len(b)) }

// TestNewMemory: what is answered may be changed, and what was handed in may be, without a trace.
func TestNewMemory(t *testing.T) {
	for _, o := range []api.Opts{two, treed} {
		_, e := filled(t, o)
		for range 2 {
			hits, _, _ := e.TopK(z(0), 3)
			more, _, _ := e.Radius(z(0), 64)
			few, _, _ := e.Few(z(0), 3, 1)
			pairs, _ := e.Pairs(0, 9)
			tail, _ := e.Tail(0)
			isTold(t, "17.9", "0:5 0:9 2:2  0:5 0:9 2:2  3 3", brief(hits), brief(more), len(pairs), len(tail))
			for _, list := range [][]api.Hit{hits, more, few} {
				list = list[:cap(list)]
				for i := range list {
					list[i] = api.Hit{Dist: -1, ID: -1, Code: "none"}
				}
			}
			if pairs[0] != (api.Pair{ID: 2, Code: z(3)}) || tail[0] != (api.Update{Seq: 1, Kind: api.Put, ID: 5, Code: z(0)}) {
				t.Fatalf("17.9: %v, %v", pairs, tail)
			}
			pairs, tail = pairs[:cap(pairs)], tail[:cap(tail)]
			for i := range pairs {
				pairs[i] = api.Pair{ID: -1}
			}
			for i := range tail {
				tail[i] = api.Update{ID: -1}
			}
		}
	}
}

// TestTextsAreNotKept: codes that were handed in, as pairs and as queries, change behind the call.
func TestTextsAreNotKept(t *testing.T) {
	for _, o := range []api.Opts{two, treed} {
		_, e := filled(t, o)
		for i, code := range []string{z(0), z(7)} { // one that is there already, and a new one
			b := []byte(code)
			answers(t, "17.4", e.Insert(20+i, loose(b)), api.OK)
			for i := range b {
				b[i] = 0xff
			}
		}
		q := []byte(z(0))
		hits, _, refusal := e.TopK(loose(q), 9)
		q[0] = 0xff
		isTold(t, "17.9", "0:5 0:9 0:20 2:2 3:21  0", brief(hits), int(refusal))
		for _, h := range hits {
			if code, refusal := e.Get(h.ID); refusal != api.OK || code != h.Code || h.Dist > 3 {
				t.Fatalf("17.9: %d has %q, found with %q", h.ID, code, h.Code)
			}
		}
		answers(t, "17.4", e.Delete(21), api.OK)
		hits, _, _ = e.Radius(z(7), 0)
		isTold(t, "17.10", "", brief(hits))
	}
}

// filled is a store with the examples' pairs.
func filled(t *testing.T, o api.Opts) (*disk.Disk, *engine.Engine) {
	t.Helper()
	d := disk.New(1 << 20)
	e, refusal := engine.Create(d, o)
	answers(t, "17.1", refusal, api.OK)
	for _, p := range []api.Pair{{ID: 5, Code: z(0)}, {ID: 2, Code: z(3)}, {ID: 9, Code: z(0)}} {
		answers(t, "17.4", e.Insert(p.ID, p.Code), api.OK)
	}
	return d, e
}

// TestIDs: the least and the greatest, and those beyond.
func TestIDs(t *testing.T) {
	for _, o := range []api.Opts{two, treed} {
		b := bothOver(t, fmt.Sprintf("ids, %+v", o), o)
		for _, id := range []int{0, 1 << 48} {
			b.must("Insert", b.insert(id, z(1)))
		}
		for _, id := range []int{-1, 1<<48 + 1, math.MinInt, math.MaxInt} {
			answers(t, "17.4", b.insert(id, "x"), api.ErrID)
			answers(t, "17.4", b.delete(id), api.ErrID)
		}
		hits, _, _ := b.e.TopK(z(0), 2)
		isTold(t, "17.6", fmt.Sprint("1:0 1:", 1<<48, " "), brief(hits))
		b.must("Delete", b.delete(1<<48))
		b.must("Delete", b.delete(0))
		b.toTheEnd()
	}
}
