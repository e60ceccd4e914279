package follow_test

import (
	"fmt"
	"math"
	"testing"

	"kindred/api"
	"kindred/disk"
)

// puts are so many updates behind the at-th, each of a pair of its own, from an id on.
func puts(at, id, n int) []api.Update {
	list := make([]api.Update, n)
	for i := range list {
		list[i] = put(at+1+i, id+i, number(id+i))
	}
	return list
}

// pairsOf are so many pairs from an id on.
func pairsOf(id, n int) []api.Pair {
	list := make([]api.Pair, n)
	for i := range list {
		list[i] = pair(id+i, number(id+i))
	}
	return list
}

// TestNoBatch (22.1): each of these is none, ahead of whatever else stands against it.
func TestNoBatch(t *testing.T) {
	const most = 1 << 60
	one := []api.Pair{pair(3, z(1))}
	gap := puts(2, 5, 3)
	gap[1].Seq = 5
	for i, c := range []api.Batch{
		{}, {Kind: 0, Last: true}, {Kind: 3}, {Kind: -1}, {Kind: math.MaxInt}, {Kind: 3, Seq: 9, Last: true},
		// Updates.
		{Kind: 1, At: -1, Seq: -1}, {Kind: 1, At: most + 1, Seq: most + 1}, {Kind: 1, At: math.MaxInt, Seq: math.MaxInt}, {Kind: 1, At: math.MinInt, Seq: math.MinInt},
		{Kind: 1, At: 2, Seq: 3}, {Kind: 1, At: 2, Seq: 1}, {Kind: 1, At: 2}, {Kind: 1, At: 2, Seq: 2, Last: true}, {Kind: 1, At: 2, Seq: 2, Pairs: one},
		{Kind: 1, At: 2, Seq: 3, Updates: puts(2, 5, 2)}, {Kind: 1, At: 2, Seq: 5, Updates: puts(2, 5, 2)}, {Kind: 1, At: 2, Seq: 4, Updates: puts(3, 5, 2)}, {Kind: 1, At: 3, Seq: 4, Updates: puts(2, 5, 2)},
		{Kind: 1, At: 2, Seq: 4, Updates: puts(1, 5, 2)}, {Kind: 1, At: 2, Seq: 5, Updates: gap}, {Kind: 1, At: 2, Seq: 4, Updates: puts(2, 5, 2), Last: true}, {Kind: 1, At: 2, Seq: 4, Updates: puts(2, 5, 2), Pairs: one},
		{Kind: 1, At: 2, Seq: 1027, Updates: puts(2, 5, 1025)}, {Kind: 1, At: most, Seq: most + 1, Updates: puts(most, 5, 1)},
		{Kind: 1, At: 2, Seq: 3, Updates: []api.Update{{Seq: 0, Kind: 1, ID: 5, Code: z(1)}}}, {Kind: 1, At: 2, Seq: 4, Updates: []api.Update{put(4, 5, z(1)), put(3, 6, z(1))}},
		// Pairs.
		{Kind: 2}, {Kind: 2, Seq: 9}, {Kind: 2, At: 2, Seq: 9}, {Kind: 2, At: -1, Seq: 9, Last: true}, {Kind: 2, Seq: -1, Last: true}, {Kind: 2, Seq: most + 1, Last: true}, {Kind: 2, At: most + 1, Seq: 9, Last: true},
		{Kind: 2, At: -1, Seq: 9, Pairs: one}, {Kind: 2, At: math.MinInt, Seq: math.MaxInt, Pairs: one}, {Kind: 2, At: 4, Seq: 9, Pairs: one}, {Kind: 2, Seq: 9, Pairs: []api.Pair{pair(-1, z(1))}, Last: true},
		{Kind: 2, Seq: 9, Pairs: []api.Pair{pair(3, z(1)), pair(3, z(2))}}, {Kind: 2, Seq: 9, Pairs: []api.Pair{pair(4, z(1)), pair(3, z(2))}, Last: true}, {Kind: 2, Seq: 9, Pairs: []api.Pair{pair(3, z(1)), pair(5, z(1)), pair(4, z(2))}},
		{Kind: 2, Seq: 9, Pairs: []api.Pair{pair(math.MaxInt, z(1)), pair(math.MinInt, z(2))}},
		{Kind: 2, Seq: 5000, Pairs: pairsOf(0, 1025)}, {Kind: 2, Seq: 5000, Pairs: pairsOf(0, 1025), Last: true}, {Kind: 2, Seq: 9, Pairs: one, Updates: puts(0, 5, 1)}, {Kind: 2, Seq: 9, Last: true, Updates: puts(8, 5, 1)},
	} {
		b := started(t, fmt.Sprint("row ", i), 100000, two)
		for _, batch := range []api.Batch{tail(0, puts(0, 0, 2)...), piece(0, 7, pair(3, z(0)))} {
			b.must(api.OK, batch)
		}
		was := seen(b.d)
		b.must(api.ErrBatch, c)
		if b.figures() != [3]int{2, 4, 2} || seen(b.d) != was {
			t.Errorf("22.12: row %d: %v, and it has written: %v", i, b.figures(), seen(b.d) != was)
		}
		b.must(api.OK, last(4, 7, pair(9, z(1))))
	}
}

// TestGreatestBatches (22.1): MaxBatch updates and pairs, numbers up to MaxSeq.
func TestGreatestBatches(t *testing.T) {
	const most = 1 << 60
	b := started(t, "great batches", 1<<20, two)
	b.must(api.OK, tail(0, puts(0, 0, 1024)...))
	b.must(api.OK, piece(0, most-1, pairsOf(5, 1024)...))
	b.must(api.OK, last(1029, most-1, pairsOf(1<<48-1023, 1024)...))
	if b.figures() != [3]int{most - 1, 0, 2048} {
		t.Fatalf("22.8: %v", b.figures())
	}
	b.must(api.OK, tail(most-1, dead(most, 5)))
	b.must(api.OK, tail(most))
	b.must(api.ErrApart, tail(most-1))
	b.must(api.ErrBatch, tail(most, dead(most+1, 6)))
	b.must(api.ErrApart, last(0, most))
	b.must(api.ErrBatch, last(0, most+1))
	if b.figures() != [3]int{most, 0, 2047} {
		t.Errorf("22.7: %v", b.figures())
	}
	b = started(t, "the greatest id", 1<<20, two)
	b.must(api.OK, piece(0, 9, pair(1<<48, z(1))))
	if b.figures() != [3]int{0, 1<<48 + 1, 0} {
		t.Errorf("22.5: %v", b.figures())
	}
	b.must(api.OK, last(1<<48+1, 9))
	if b.figures() != [3]int{9, 0, 1} {
		t.Errorf("22.8: %v", b.figures())
	}
}

// TestLastPieces (22.8): what Reset refuses is refused when the last piece is there, and nothing is gathered then.
func TestLastPieces(t *testing.T) {
	long := z(1) + z(1)
	for i, c := range []struct {
		pieces []api.Batch
		want   api.Errno
	}{
		{[]api.Batch{piece(0, 9, pair(1, "x")), last(2, 9)}, api.ErrCode},
		{[]api.Batch{piece(0, 9, pair(1, "")), piece(2, 9, pair(2, z(1))), last(3, 9, pair(9, z(1)))}, api.ErrCode},
		{[]api.Batch{last(0, 9, pair(1, long))}, api.ErrCode},
		{[]api.Batch{last(0, 9, pair(1<<48+1, z(1)))}, api.ErrID},
		{[]api.Batch{piece(0, 9, pair(1<<48+1, z(1))), last(1<<48+2, 9)}, api.ErrID},
		{[]api.Batch{last(0, 9, pair(1, z(1)), pair(math.MaxInt, "x"))}, api.ErrID},
		{[]api.Batch{last(0, 9, pair(1, "x"), pair(1<<48+1, z(1)))}, api.ErrCode},
		{[]api.Batch{last(0, 9, pair(1<<48+1, "x"))}, api.ErrID},
		{[]api.Batch{last(0, 3, pairsOf(0, 4)...)}, api.ErrBatch}, // more pairs than updates
		{[]api.Batch{piece(0, 3, pairsOf(0, 3)...), last(3, 3, pair(3, z(1)))}, api.ErrBatch},
		{[]api.Batch{last(0, 3, pair(1, z(1)), pair(2, "x"), pair(3, z(1)), pair(4, z(1)))}, api.ErrCode},
		{[]api.Batch{last(0, 3, pairsOf(0, 3)...)}, api.OK},
		{[]api.Batch{piece(0, 3, pairsOf(0, 2)...), last(2, 3, pair(7, z(1)))}, api.OK},
		{[]api.Batch{last(0, 3)}, api.OK},
		{[]api.Batch{piece(0, 4, pair(0, z(0))), piece(1, 4, pair(1, z(0))), piece(2, 4, pair(2, z(0))), last(3, 4)}, api.OK},
	} {
		b := started(t, fmt.Sprint("pieces ", i), 100000, treed)
		b.must(api.OK, tail(0, puts(0, 20, 2)...))
		for j, x := range c.pieces {
			was := seen(b.d)
			if j < len(c.pieces)-1 {
				b.must(api.OK, x)
				if seen(b.d) != was || b.f.Number() != 2 || b.f.Count() != 2 {
					t.Fatalf("22.8: %s: a piece has written", b.where)
				}
				continue
			}
			b.must(c.want, x)
			want := [3]int{2, 0, 2}
			if c.want == api.OK {
				want = [3]int{x.Seq, 0, len(b.m.pairs)}
			}
			if b.figures() != want || c.want != api.OK && seen(b.d) != was {
				t.Errorf("22.8: %s: behind the last one: %v, want %v", b.where, b.figures(), want)
			}
		}
	}
}

// TestPiecesApart (22.8): which pieces go behind what is gathered, and when that is forgotten.
func TestPiecesApart(t *testing.T) {
	for i, c := range []struct {
		batch api.Batch
		want  api.Errno
		from  int
	}{
		{piece(6, 9, pair(8, z(1))), api.OK, 9},
		{piece(6, 9, pair(6, z(1))), api.OK, 7},
		{piece(0, 9, pair(3, z(1))), api.ErrApart, 6}, // it comes again
		{piece(5, 9, pair(8, z(1))), api.ErrApart, 6},
		{piece(7, 9, pair(8, z(1))), api.ErrApart, 6},
		{last(7, 9), api.ErrApart, 6},
		{last(0, 9), api.ErrApart, 6},
		{piece(6, 10, pair(8, z(1))), api.ErrApart, 0}, // as of another update: forgotten
		{last(6, 8), api.ErrApart, 0},
		{piece(0, 8, pair(2, z(1))), api.OK, 3},
		{piece(0, 10, pair(2, z(1))), api.OK, 3},
		{piece(6, 2, pair(8, z(1))), api.ErrApart, 6}, // nothing new: what is gathered stays
		{piece(0, 2, pair(8, z(1))), api.ErrApart, 6},
		{piece(0, 1, pair(8, z(1))), api.ErrApart, 6},
		{last(0, 0), api.ErrApart, 6},
		{tail(2), api.OK, 6}, // no updates: nothing is done
		{tail(1), api.ErrApart, 6},
		{tail(3), api.ErrApart, 6},
		{tail(2, dead(3, 7)), api.ErrDiverged, 6},
		{tail(2, put(3, 0, z(1))), api.ErrDiverged, 6},
		{tail(2, put(3, 7, z(1))), api.OK, 0}, // updates: what is gathered is forgotten
	} {
		b := started(t, fmt.Sprint("row ", i), 100000, two)
		b.must(api.OK, tail(0, puts(0, 0, 2)...))
		b.must(api.OK, piece(0, 9, pair(3, z(1)), pair(5, z(2))))
		b.must(c.want, c.batch)
		if b.f.From() != c.from {
			t.Errorf("22.5, 22.8: row %d: From is %d, want %d", i, b.f.From(), c.from)
		}
		// What is gathered still, or is not, is told by the last piece too.
		want, n := api.OK, 2
		if c.from != 6 {
			want, n = api.ErrApart, b.f.Count()
		}
		b.must(want, last(6, 9))
		if b.f.Count() != n {
			t.Errorf("22.8: row %d: %d pairs, want %d", i, b.f.Count(), n)
		}
	}
}

// TestDiverged (22.7): updates that can't be made, one behind the other, on what there is.
func TestDiverged(t *testing.T) {
	other := func(kind int) api.Update { return api.Update{Seq: 3, Kind: kind, ID: 9, Code: z(1)} }
	for i, c := range []struct {
		updates []api.Update
		want    api.Errno
	}{
		{[]api.Update{put(3, 9, z(1))}, api.OK}, {[]api.Update{dead(3, 1)}, api.OK},
		{[]api.Update{dead(3, 1), put(4, 1, z(9))}, api.OK}, {[]api.Update{put(3, 9, z(1)), dead(4, 9), put(5, 9, z(2))}, api.OK},
		{[]api.Update{dead(3, 9)}, api.ErrDiverged}, {[]api.Update{put(3, 1, z(1))}, api.ErrDiverged}, {[]api.Update{put(3, 1, number(1))}, api.ErrDiverged},
		{[]api.Update{put(3, 9, z(1)), put(4, 9, z(1))}, api.ErrDiverged}, {[]api.Update{put(3, 9, z(1)), put(4, 8, z(1)), dead(5, 7)}, api.ErrDiverged},
		{[]api.Update{dead(3, 1), dead(4, 1)}, api.ErrDiverged}, {[]api.Update{dead(3, 1), put(4, 1, z(1)), put(5, 1, z(1))}, api.ErrDiverged},
		{[]api.Update{put(3, -1, z(1))}, api.ErrDiverged}, {[]api.Update{put(3, 1<<48+1, z(1))}, api.ErrDiverged}, {[]api.Update{put(3, 1<<48, z(1))}, api.OK}, {[]api.Update{dead(3, -1)}, api.ErrDiverged},
		{[]api.Update{put(3, 9, "x")}, api.ErrDiverged}, {[]api.Update{put(3, 9, "")}, api.ErrDiverged}, {[]api.Update{put(3, 9, z(1)+z(1))}, api.ErrDiverged},
		{[]api.Update{other(0)}, api.ErrDiverged}, {[]api.Update{other(3)}, api.ErrDiverged}, {[]api.Update{other(-1)}, api.ErrDiverged},
		{[]api.Update{{Seq: 3, Kind: 2, ID: 1, Code: number(1)}}, api.ErrDiverged}, {[]api.Update{put(3, 9, z(1)), {Seq: 4, Kind: 2, ID: 9, Code: "x"}}, api.ErrDiverged},
	} {
		b := started(t, fmt.Sprint("row ", i), 100000, eight)
		b.must(api.OK, tail(0, puts(0, 0, 2)...))
		was := seen(b.d)
		b.must(c.want, tail(2, c.updates...))
		if c.want != api.OK && seen(b.d) != was {
			t.Errorf("22.12: row %d: it has written", i)
		}
		if c.want == api.OK {
			b.disks(func(d *disk.Disk) { d.Crash(nil) })
			answers(t, "22.3: Open", b.open(), api.OK)
			if b.f.Number() != 2+len(c.updates) {
				t.Errorf("22.7: row %d: the updates are not synced: %d", i, b.f.Number())
			}
		}
		// Ahead of that: a number that does not follow.
		c.updates[0].Seq--
		b.must(map[bool]api.Errno{true: api.ErrApart, false: api.ErrBatch}[len(c.updates) == 1], tail(1, c.updates...))
	}
}
