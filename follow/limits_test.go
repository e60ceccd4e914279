package follow_test

import (
	"fmt"
	"slices"
	"strings"
	"testing"

	"kindred/api"
	"kindred/disk"
	"kindred/follow"
	"kindred/keep"
	"kindred/manifest"
)

// TestWordsThatWait (22.9): words about half of MaxDelta pairs are not too many, one more is; just then it is compacted, to the end.
func TestWordsThatWait(t *testing.T) {
	const half = 1 << 15
	for _, o := range []api.Opts{treed, two} {
		b := bothOn(t, fmt.Sprint("half, mode ", o.Mode), words(t, o, half-1, false), 1<<26, o)
		answers(t, "22.3: Open", b.open(), api.OK)
		b.must(api.OK, tail(half-1, put(half, half-1, number(1))))
		b.must(api.OK, tail(half, dead(half+1, 5))) // a pair of which a word waits already
		b.must(api.OK, tail(half+1))
		b.must(api.ErrDiverged, tail(half+1, dead(half+2, 5)))
		if names := b.d.Names(); !slices.Equal(names, []string{"j1", "manifest"}) {
			t.Fatalf("22.9: %s: %d words: %v", b.where, half, names)
		}
		b.must(api.OK, tail(half+1, put(half+2, half, number(2))))
		k, e := keep.Open(b.d)
		answers(t, "15.5: Open", e, api.OK)
		if runs := k.Runs(); len(runs) != 1 || runs[0].Dead() != 0 || runs[0].Info().Count != half || k.Seen().Seq != half+2 {
			t.Errorf("22.9: %s: it is not compacted to the end: %+v", b.where, k.Seen())
		}
		if b.figures() != [3]int{half + 2, 0, half} {
			t.Errorf("22.9: %s: %v", b.where, b.figures())
		}
	}
	// Two runs, one of them of dead words alone.
	at := 1<<17 + half
	b := bothOn(t, "deaths", words(t, treed, half, true), 1<<26, treed)
	answers(t, "22.3: Open", b.open(), api.OK)
	b.must(api.OK, tail(at, put(at+1, 7, number(8))))
	if m := b.m.k.Seen(); len(m.Runs) != 1 || m.Runs[0].Count != 1 {
		t.Errorf("22.9: %s: %+v", b.where, m)
	}
}

// TestCompactionRefused (22.9): where there is no room to compact, or no number, the batch is accepted all the same.
func TestCompactionRefused(t *testing.T) {
	const half = 1 << 15
	image := words(t, treed, half, false)
	b := bothOn(t, "no room", image, len(image)+200, treed)
	answers(t, "22.3: Open", b.open(), api.OK)
	for i := range 3 {
		b.must(api.OK, tail(half+i, put(half+1+i, half+i, number(1))))
	}
	if m := b.m.k.Seen(); m.Seq != 0 || !slices.Equal(b.d.Names(), []string{"j1", "manifest"}) {
		t.Errorf("22.9: %s: %+v, %v", b.where, m, b.d.Names())
	}
	b = bothOn(t, "no number", worn(t, image, 1<<40-1), 1<<26, treed)
	answers(t, "22.3: Open", b.open(), api.OK)
	b.must(api.OK, tail(half, put(half+1, half, number(1))))
	if n, _ := b.m.k.Waits(); n != half+1 {
		t.Errorf("22.9: %s: %d words wait", b.where, n)
	}
	b.must(api.ErrWorn, last(0, half+9))
	if b.figures() != [3]int{half + 1, 0, half + 1} {
		t.Errorf("22.8: %s: %v", b.where, b.figures())
	}
}

// worn is an image whose next file has another number.
func worn(t *testing.T, image string, next int) string {
	t.Helper()
	d, e := disk.Open(image, 1<<26)
	answers(t, "4.3: Open", e, api.OK)
	m, e := manifest.Load(d)
	answers(t, "8.6: Load", e, api.OK)
	m.Next = next
	answers(t, "8.5: Store", manifest.Store(d, m), api.OK)
	return d.Image()
}

// TestBusy (22.7): words about MaxDelta pairs wait: what is ahead of the refused update stays made, and is durable; nothing is compacted.
func TestBusy(t *testing.T) {
	const most = 1 << 16
	b := bothOn(t, "busy", words(t, treed, most, false), 1<<26, treed)
	answers(t, "22.3: Open", b.open(), api.OK)
	b.must(api.OK, piece(0, 1<<20, pair(1, z(1))))
	b.must(api.ErrBusy, tail(most, dead(most+1, 5), put(most+2, 5, number(5)), put(most+3, most, z(1)), dead(most+4, 6)))
	if b.figures() != [3]int{most + 2, 0, most} {
		t.Errorf("22.7: %s: %v", b.where, b.figures())
	}
	b.must(api.ErrBusy, tail(most+2, put(most+3, most, z(1))))
	b.disks(func(d *disk.Disk) { d.Crash(nil) })
	answers(t, "22.3: Open", b.open(), api.OK)
	if b.figures() != [3]int{most + 2, 0, most} || b.m.k.Seen().Seq != 0 {
		t.Errorf("22.7: %s: behind a cut: %v", b.where, b.figures())
	}
	b.must(api.OK, last(0, 1<<20, pair(1, z(1))))
}

// TestFull (22.7, 22.8): a disk of every capacity: updates up to the first that finds no room, which are durable; pairs, all or none.
func TestFull(t *testing.T) {
	found := map[string]int{}
	for capacity := range 500 {
		b := bothOn(t, fmt.Sprint("capacity ", capacity), "D", capacity, treed)
		if e := b.open(); e != api.OK {
			answers(t, "22.3: Open", e, api.ErrFull)
			continue
		}
		b.must(api.OK, piece(0, 9, pair(1, z(1))))
		e := b.accept(tail(0, puts(0, 0, 6)...))
		n := b.f.Number()
		if (e == api.OK) != (n == 6) || e != api.OK && e != api.ErrFull || b.f.From() != 0 {
			t.Fatalf("22.7: %s: %d, it is at %d", b.where, e, n)
		}
		b.disks(func(d *disk.Disk) { d.Crash(nil) })
		answers(t, "22.3: Open", b.open(), api.OK)
		if b.f.Number() != n {
			t.Fatalf("22.7: %s: behind a cut it is at %d, want %d", b.where, b.f.Number(), n)
		}
		f := b.accept(last(0, 9, pairsOf(3, 5)...))
		if f != api.OK && (f != api.ErrFull || b.figures() != [3]int{n, 0, n}) {
			t.Fatalf("22.8: %s: %d, %v", b.where, f, b.figures())
		}
		found[fmt.Sprint(e, n > 0, f)]++
		// On a greater disk it goes on.
		image := b.d.Image()
		b = bothOn(t, b.where+", then greater", image, 1<<20, treed)
		answers(t, "22.3: Open", b.open(), api.OK)
		if f == api.OK {
			continue
		}
		b.must(api.OK, tail(n, puts(0, 0, 6)[n:]...))
		b.must(api.OK, last(0, 9, pairsOf(3, 5)...))
	}
	if len(found) < 4 {
		t.Errorf("22.7, 22.8: what was answered: %v", found)
	}
}

// TestMostPairs (22.7, 22.8): MaxPairs pairs are gathered, and one more is too many; so it is by updates.
func TestMostPairs(t *testing.T) {
	const most = 1 << 20
	f, e := follow.Open(disk.New(1<<28), treed)
	answers(t, "22.3: Open", e, api.OK)
	gather := func(seq int) {
		t.Helper()
		for at := 0; at < most; at += 1024 {
			answers(t, fmt.Sprint("22.8: pairs from ", at), f.Accept(piece(at, seq, pairsOf(at, 1024)...)), api.OK)
		}
		if f.From() != most || f.Count() != 0 {
			t.Fatalf("22.5: %d pairs are gathered, %d are there", f.From(), f.Count())
		}
	}
	gather(most)
	answers(t, "22.8: too many pairs, of another place", f.Accept(piece(most+1, most, pair(most+1, z(1)))), api.ErrApart)
	answers(t, "22.8: one too many", f.Accept(piece(most, most, pair(most, z(1)))), api.ErrMany)
	if f.From() != 0 || f.Number() != 0 {
		t.Fatalf("22.8: behind too many: %d, %d", f.From(), f.Number())
	}
	answers(t, "22.8: they are forgotten", f.Accept(last(most, most)), api.ErrApart)
	gather(most - 1)
	answers(t, "22.8: one too many, and more than updates", f.Accept(last(most, most-1, pair(most, z(1)))), api.ErrMany)
	gather(most - 1)
	answers(t, "22.8: more pairs than updates", f.Accept(last(most, most-1)), api.ErrBatch)
	gather(most)
	answers(t, "22.8: MaxPairs", f.Accept(last(most, most)), api.OK)
	if f.Count() != most || f.Number() != most || f.From() != 0 {
		t.Fatalf("22.8: %d pairs at %d, from %d", f.Count(), f.Number(), f.From())
	}
	answers(t, "22.7: one more pair", f.Accept(tail(most, put(most+1, most, z(1)))), api.ErrDiverged)
	answers(t, "22.7: one more for a moment", f.Accept(tail(most, put(most+1, most, z(1)), dead(most+2, 4))), api.ErrDiverged)
	answers(t, "22.7: two more for a moment", f.Accept(tail(most, dead(most+1, 4), put(most+2, most, z(1)), put(most+3, 4, z(1)), dead(most+4, 5))), api.ErrDiverged)
	answers(t, "22.7: one in another's place", f.Accept(tail(most, dead(most+1, 4), put(most+2, most, strings.Repeat("\xff", 8)))), api.OK)
	if hits, e := f.TopK(strings.Repeat("\xff", 8), 1); e != api.OK || !slices.Equal(hits, []api.Hit{{ID: most, Code: strings.Repeat("\xff", 8)}}) || f.Count() != most {
		t.Errorf("22.4: of MaxPairs pairs: %x, %d", hits, e)
	}
}
