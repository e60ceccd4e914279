package keep_test

import (
	"fmt"
	"slices"
	"strings"
	"testing"

	"kindred/api"
	"kindred/disk"
	"kindred/keep"
	"kindred/manifest"
	"kindred/run"
)

// code is a number as a code of 64 bits.
func code(n int) string {
	return string([]byte{0, 0, 0, 0, byte(n >> 24), byte(n >> 16), byte(n >> 8), byte(n)})
}

// TestMostPairs: MaxPairs live, in a run, and one more.
func TestMostPairs(t *testing.T) {
	const most = 1 << 20
	pairs := make([]api.Pair, most+1)
	for i := range pairs {
		pairs[i] = api.Pair{ID: i, Code: code(i / 3)}
	}
	d := disk.New(1 << 28)
	k, e := keep.Create(d, treed)
	answers(t, "15.4: Create", e, api.OK)
	answers(t, "15.14: too many pairs, and a bad number", k.Reset(-1, pairs), api.ErrMany)
	answers(t, "15.14: MaxPairs", k.Reset(most, pairs[:most]), api.OK)
	full := func(k *keep.Keep) {
		t.Helper()
		if k.Count() != most || k.Codes() != most/3+1 || len(k.Pairs(5, most)) != most-5 {
			t.Fatalf("15.6: %d pairs, %d codes", k.Count(), k.Codes())
		}
		answers(t, "15.7: one more pair", k.Insert(most, code(1)), api.ErrMany)
		answers(t, "15.7: one that lives", k.Insert(7, code(1)), api.ErrTwice)
		answers(t, "15.7: a short code", k.Insert(most, "x"), api.ErrCode)
	}
	full(k)
	image := d.Image()
	answers(t, "15.8: Delete", k.Delete(9), api.OK)
	answers(t, "15.7: Insert in its place", k.Insert(most, code(1)), api.OK)
	answers(t, "15.7: Insert", k.Insert(9, code(3)), api.ErrMany)
	answers(t, "15.8: Delete", k.Delete(most), api.OK)
	answers(t, "15.7: Insert again", k.Insert(9, code(3)), api.OK)
	k, e = keep.Open(d)
	answers(t, "15.5: Open", e, api.OK)
	full(k)
	// A journal that would put one more there.
	d, _ = disk.Open(image, 1<<28)
	m, _ := manifest.Load(d)
	put(d, jname(m.Journal), journalOf(t, api.Update{Seq: most + 1, Kind: 1, ID: most, Code: code(1)}))
	writes := d.Writes()
	if k, e := keep.Open(d); k != nil || e != api.ErrCorrupt || d.Writes() != writes {
		t.Errorf("15.5: one pair too many by the journal: %d", e)
	}
	// And a run that does.
	d = disk.New(1 << 28)
	for i, e := range []api.Errno{api.OK, api.ErrCorrupt} {
		list := make([]api.Entry, most+i)
		for id := range list {
			list[id] = api.Entry{Code: code(id), ID: id, Seq: id + 1}
		}
		info := api.RunInfo{Number: 2 + i, Hi: most + 1, Count: len(list)}
		answers(t, "14.2: Write", run.Write(d, info.Number, treed, info, list), api.OK)
		put(d, "j1", "")
		answers(t, "8.5: Store", manifest.Store(d, api.Manifest{Opts: treed, Seq: most + 1, Next: 9, Journal: 1, Runs: []api.RunInfo{info}}), api.OK)
		if _, got := keep.Open(d); got != e {
			t.Errorf("15.5: %d pairs in a run: %d, want %d", len(list), got, e)
		}
	}
}

// TestMostWords: words about MaxDelta pairs wait, and one more.
func TestMostWords(t *testing.T) {
	const most = 1 << 16
	d := disk.New(1 << 28)
	k, e := keep.Create(d, treed)
	answers(t, "15.4: Create", e, api.OK)
	answers(t, "15.14: Reset", k.Reset(100, []api.Pair{{ID: 1 << 40, Code: code(1)}, {ID: 1<<40 + 1, Code: code(2)}}), api.OK)
	for n := range most - 1 {
		answers(t, "15.7: Insert", k.Insert(n, code(n)), api.OK)
	}
	answers(t, "15.8: the last word", k.Delete(1<<40), api.OK)
	busy := func(k *keep.Keep) {
		t.Helper()
		writes, was := d.Writes(), d.Used()
		for i, e := range []api.Errno{k.Insert(most, code(0)), k.Insert(1<<40, code(3)), k.Delete(1<<40 + 1)} {
			answers(t, fmt.Sprint("15.7, 15.8: one more word, ", i), e, api.ErrBusy)
		}
		answers(t, "15.7: a bad code", k.Insert(most, ""), api.ErrCode)
		answers(t, "15.7: a bad id", k.Insert(-1, ""), api.ErrID)
		answers(t, "15.7: one that lives", k.Insert(5, code(9)), api.ErrTwice)
		answers(t, "15.8: one that does not", k.Delete(most), api.ErrGone)
		if n, some := k.Waits(); n != most || !some || d.Writes() != writes || d.Used() != was || k.Count() != most {
			t.Fatalf("15.10: %d words wait, %d pairs", n, k.Count())
		}
	}
	busy(k)
	k, e = keep.Open(d)
	answers(t, "15.5: Open", e, api.OK)
	busy(k)
	// Of a pair about which a word waits more can be said.
	answers(t, "15.7: a pair that is spoken of", k.Insert(1<<40, code(1)), api.OK)
	answers(t, "15.8: a pair that is spoken of", k.Delete(7), api.OK)
	answers(t, "15.7: the same id with another code", k.Insert(7, code(8)), api.ErrBusy)
	answers(t, "15.7: the same pair", k.Insert(7, code(7)), api.OK)
	answers(t, "15.8: the first one again", k.Delete(1<<40), api.OK)
	busy(k)
	some, e := k.Flush()
	if !some || e != api.OK || k.Insert(most, code(0)) != api.OK || k.Delete(1<<40+1) != api.OK {
		t.Errorf("15.10: a Flush makes room for words: %d", e)
	}
}

// TestWordsOfAJournal: updates about MaxDelta pairs, and another one about one of these, or about one more.
func TestWordsOfAJournal(t *testing.T) {
	const most = 1 << 16
	var b strings.Builder
	for n := range most {
		b.WriteString(journalOf(t, api.Update{Seq: n + 1, Kind: 1, ID: n, Code: code(n)}))
	}
	b.WriteString(journalOf(t, api.Update{Seq: most + 1, Kind: 2, ID: 3}))
	for _, c := range []struct {
		id, code int
		want     api.Errno
	}{{3, 3, api.OK}, {3, 4, api.ErrCorrupt}, {most, 3, api.ErrCorrupt}} {
		d := disk.New(1 << 28)
		_, e := keep.Create(d, treed)
		answers(t, "15.4: Create", e, api.OK)
		put(d, "j1", b.String()+journalOf(t, api.Update{Seq: most + 2, Kind: 1, ID: c.id, Code: code(c.code)}))
		writes := d.Writes()
		if _, e := keep.Open(d); e != c.want || d.Writes() != writes {
			t.Errorf("15.5: a journal that puts %d with %d last: %d, want %d", c.id, c.code, e, c.want)
		}
	}
}

// TestMostRuns: MaxRuns runs, and one more.
func TestMostRuns(t *testing.T) {
	b := bothOn(t, "runs", 1<<20)
	b.quiet = true
	b.create(treed)
	for i := range 24 {
		b.insert(i, code(i))
		answers(t, "15.10: Flush", b.flush(), api.OK)
	}
	b.quiet = false
	answers(t, "15.10: nothing waits", b.flush(), api.OK)
	b.insert(99, code(99))
	for range 2 {
		writes := b.d.Writes()
		answers(t, "15.10: a run too many", b.flush(), api.ErrBusy)
		if b.d.Writes() != writes || b.k.Count() != 25 {
			t.Fatal("15.10: ErrBusy has changed something")
		}
		b.twice()
	}
	image := b.d.Image()
	answers(t, "15.13: Swap", b.merge(2), api.OK)
	answers(t, "15.10: Flush", b.flush(), api.OK)
	b.insert(100, code(100))
	answers(t, "15.10: a run too many", b.flush(), api.ErrBusy)
	b.twice()
	b = bothOn(t, "runs that are reset", 0)
	b.d, _ = disk.Open(image, 1<<20)
	b.other, _ = disk.Open(image, 1<<20)
	b.open()
	answers(t, "15.14: Reset does not ask how many runs there are", b.reset(50, []api.Pair{{ID: 1, Code: code(1)}}), api.OK)
	b.twice()
}

// TestLastNumbers: of files and of updates.
func TestLastNumbers(t *testing.T) {
	for _, o := range []api.Opts{treed, eight} {
		for _, next := range []int{1<<40 - 5, 1<<40 - 4, 1<<40 - 3, 1<<40 - 2, 1<<40 - 1, 1 << 40} {
			b := worn(t, o, func(m *api.Manifest) { m.Next = next })
			b.insert(5, code(5))
			want := api.OK
			if next+2 > 1<<40 {
				want = api.ErrWorn
			}
			was := seenOf(b.d)
			answers(t, "15.10: Flush", b.flush(), want)
			if want != api.OK && seenOf(b.d) != was {
				t.Fatal("15.10: ErrWorn has written")
			}
			b.twice()
			b = worn(t, o, func(m *api.Manifest) { m.Next = next })
			answers(t, "15.14: Reset", b.reset(99, nil), want)
			answers(t, "15.14: ErrSeq comes first", b.reset(0, nil), api.ErrSeq)
			b = worn(t, o, func(m *api.Manifest) { m.Next = next })
			for n := next; n <= 1<<40+1; n++ {
				got := b.number()
				if n < 1<<40 && got != n || n >= 1<<40 && got != 0 {
					t.Fatalf("15.12: Number: %d behind %d", got, n)
				}
			}
		}
		for _, seq := range []int{1<<60 - 3, 1<<60 - 2, 1<<60 - 1, 1 << 60} {
			b := worn(t, o, func(m *api.Manifest) { m.Seq = seq })
			for b.k.Seq() < 1<<60 {
				answers(t, "15.7: Insert", b.insert(b.k.Count(), code(1)), api.OK)
				b.twice()
			}
			answers(t, "15.7: behind the last number", b.insert(9, code(1)), api.ErrWorn)
			answers(t, "15.8: behind the last number", b.delete(0), api.ErrWorn)
			answers(t, "15.7: ErrTwice comes first", b.insert(0, code(1)), api.ErrTwice)
			answers(t, "15.8: ErrGone comes first", b.delete(77), api.ErrGone)
			answers(t, "15.14: Reset", b.reset(1<<60, nil), api.ErrSeq)
			answers(t, "15.10: Flush", b.flush(), api.OK)
			b.twice()
		}
	}
}

// worn is a store whose numbers are near their end: only hand-made files get there.
func worn(t *testing.T, o api.Opts, change func(m *api.Manifest)) *both {
	t.Helper()
	b := bothOn(t, "worn numbers", 1<<20)
	b.quiet = true
	b.create(o)
	b.insert(0, code(0))
	b.flush()
	b.disks(func(d *disk.Disk) {
		m, _ := manifest.Load(d)
		change(&m)
		answers(t, "8.5: Store", manifest.Store(d, m), api.OK)
	})
	b.quiet = false
	answers(t, "15.5: Open", b.open(), api.OK)
	return b
}

// TestLongestJournal: an update for which the journal's file has no room.
func TestLongestJournal(t *testing.T) {
	d := disk.New(1 << 30)
	k, e := keep.Create(d, treed)
	answers(t, "15.4: Create", e, api.OK)
	answers(t, "15.7: Insert", k.Insert(1, code(1)), api.OK)
	size, _ := d.Size("j1")
	answers(t, "4.6: Append", d.Append("j1", strings.Repeat("x", 1<<28-size-20)), api.OK)
	used, writes := d.Used(), d.Writes()
	answers(t, "15.7: Insert", k.Insert(2, code(2)), api.ErrBig)
	if k.Count() != 1 || k.Seq() != 1 || d.Used() != used || d.Writes() != writes {
		t.Fatal("15.7: ErrBig has changed something")
	}
	answers(t, "15.8: Delete, which is shorter", k.Delete(1), api.OK)
	answers(t, "15.7: Insert", k.Insert(2, code(2)), api.ErrBig)
	some, e := k.Flush()
	if !some || e != api.OK {
		t.Fatal("15.10: Flush:", e)
	}
	answers(t, "15.7: Insert into a new journal", k.Insert(2, code(2)), api.OK)
	if list, ok := k.Tail(2); !ok || !slices.Equal(list, []api.Update{{Seq: 3, Kind: 1, ID: 2, Code: code(2)}}) {
		t.Errorf("15.11: Tail(2): %v, %v", list, ok)
	}
}
