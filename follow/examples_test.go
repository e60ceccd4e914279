package follow_test

import (
	"testing"

	"kindred/api"
)

// TestExamples: the chapter's table.
func TestExamples(t *testing.T) {
	b := bothOn(t, "an empty disk", "D", 100000, api.Opts{Width: 63})
	answers(t, "22.3: Open of width 63", b.open(), api.ErrWidth)
	f := started(t, "F", 100000, eight)
	is := func(b *both, number, from, count int) {
		t.Helper()
		if b.figures() != [3]int{number, from, count} {
			t.Errorf("22.4, 22.5: %s: number, from, count: %v, want %d, %d, %d", b.where, b.figures(), number, from, count)
		}
	}
	is(f, 0, 0, 0)
	l := leaderOf(t, "E", eight)
	offers := func(at, from, most int, want api.Batch) api.Batch {
		t.Helper()
		got := l.offer(at, from, most)
		if !same(got, want) {
			t.Errorf("22.2: Offer(%d, %d, %d): %s, want %s", at, from, most, short(got), short(want))
		}
		return got
	}
	l.update(5, z(0))
	l.update(6, z(1))
	offers(0, 0, 10, tail(0))
	l.e.Sync()
	offers(0, 0, 1, tail(0, put(1, 5, z(0))))
	first := offers(0, 0, 10, tail(0, put(1, 5, z(0)), put(2, 6, z(1))))
	offers(2, 0, 10, tail(2))
	f.must(api.OK, first)
	is(f, 2, 0, 2)
	f.must(api.ErrApart, first)
	answers(t, "17.4: CompactStep", l.step(1), api.OK)
	l.update(7, z(3))
	l.update(5, "")
	l.e.Sync()
	offers(2, 0, 9, tail(2, put(3, 7, z(3)), dead(4, 5)))
	g := started(t, "G", 100000, eight)
	g.must(api.OK, offers(0, 0, 1, piece(0, 4, pair(6, z(1)))))
	is(g, 0, 7, 0)
	g.must(api.OK, offers(0, 7, 1, last(7, 4, pair(7, z(3)))))
	is(g, 4, 0, 2)
	l.update(7, "")
	offers(0, 0, 9, tail(0))
	for i, c := range []struct {
		batch api.Batch
		want  api.Errno
	}{
		{tail(4, dead(5, 8)), api.ErrDiverged}, {tail(4, put(5, 6, z(0))), api.ErrDiverged}, {tail(4, dead(6, 7)), api.ErrBatch},
		{last(0, 4), api.ErrApart}, {last(3, 9, pair(3, z(0))), api.ErrApart}, {piece(0, 1000, pair(3, z(0)), pair(3, z(1))), api.ErrBatch},
	} {
		was := seen(g.d)
		g.must(c.want, c.batch)
		is(g, 4, 0, 2)
		if seen(g.d) != was {
			t.Errorf("22.12: row %d: it has written", i)
		}
	}
	g.must(api.OK, last(0, 9))
	is(g, 9, 0, 0)
}
