package follow_test

import (
	"fmt"
	"maps"
	"slices"
	"testing"

	"kindred/api"
	"kindred/disk"
	"kindred/engine"
	"kindred/follow"
	"kindred/internal/sample"
	"kindred/manifest"
)

// leader is an engine, its disk, and the updates that stand.
type leader struct {
	t       *testing.T
	where   string
	d       *disk.Disk
	e       *engine.Engine
	updates []api.Update
	under   api.Update // the one under way when the power went
}

func leaderOf(t *testing.T, where string, o api.Opts) *leader {
	t.Helper()
	l := &leader{t: t, where: where, d: disk.New(1 << 22)}
	e, f := engine.Create(l.d, o)
	answers(t, "17.1: Create", f, api.OK)
	l.e = e
	return l
}

// update puts a pair there, or takes the one away that is.
func (l *leader) update(id int, code string) api.Errno {
	l.t.Helper()
	u := put(len(l.updates)+1, id, code)
	f := api.OK
	if _, lives := l.pairsAt(len(l.updates))[id]; lives {
		u = dead(u.Seq, id)
		f = l.e.Delete(id)
	} else {
		f = l.e.Insert(id, code)
	}
	switch f {
	case api.OK:
		l.updates = append(l.updates, u)
	case api.ErrDown:
		l.under = u
	default:
		l.t.Fatalf("17.4: %s: an update: %d", l.where, f)
	}
	return f
}

// pairsAt is M at a number.
func (l *leader) pairsAt(n int) map[int]string {
	l.t.Helper()
	if n > len(l.updates) {
		l.t.Fatalf("22.10: %s: there is no update %d: %d stand", l.where, n, len(l.updates))
	}
	m, ok := played(nil, l.e.Opts().Width, l.updates[:n])
	if !ok {
		l.t.Fatalf("%s: updates that can't be", l.where)
	}
	return m
}

// step compacts, so many steps.
func (l *leader) step(n int) api.Errno {
	l.t.Helper()
	for range n {
		if done, f := l.e.CompactStep(); done || f != api.OK {
			return f
		}
	}
	return api.OK
}

// opened takes up what a power cut has left: what is not there any more has never been.
func (l *leader) opened() {
	l.t.Helper()
	e, f := engine.Open(l.d)
	if f == api.ErrDown {
		l.d.Crash(nil)
		e, f = engine.Open(l.d)
	}
	answers(l.t, l.where+": 17.1: Open", f, api.OK)
	l.e = e
	if n := e.Seq(); n == len(l.updates)+1 {
		l.updates = append(l.updates, l.under)
	} else {
		l.updates = l.updates[:n]
	}
}

// offered is what Offer should answer, by the updates that stand and the manifest.
func (l *leader) offered(at, from, most int) api.Batch {
	l.t.Helper()
	m, f := manifest.Load(l.d)
	answers(l.t, "8.6: Load", f, api.OK)
	synced := l.e.Synced()
	switch {
	case at >= m.Seq:
		return tail(at, l.updates[at:min(synced, at+most)]...)
	case synced < len(l.updates):
		return tail(at)
	}
	all := l.pairsAt(synced)
	b := piece(from, synced)
	for _, id := range slices.Sorted(maps.Keys(all)) {
		if id >= from {
			b.Pairs = append(b.Pairs, pair(id, all[id]))
		}
	}
	b.Last = len(b.Pairs) <= most
	b.Pairs = b.Pairs[:min(most, len(b.Pairs))]
	return b
}

// offer is what Offer does answer; nothing is written.
func (l *leader) offer(at, from, most int) api.Batch {
	l.t.Helper()
	was, synced := seen(l.d), l.e.Synced()
	b, f := follow.Offer(l.e, at, from, most)
	if want := l.offered(at, from, most); f != api.OK || !same(b, want) {
		l.t.Fatalf("22.2: %s: Offer(%d, %d, %d): %s, %d, want %s", l.where, at, from, most, short(b), f, short(want))
	}
	if !isBatch(b) {
		l.t.Fatalf("22.1: %s: Offer(%d, %d, %d) is no batch: %s", l.where, at, from, most, short(b))
	}
	if seen(l.d) != was || l.e.Synced() != synced {
		l.t.Fatalf("22.2: %s: Offer(%d, %d, %d) has written or synced", l.where, at, from, most)
	}
	return b
}

// TestOffers: whatever the engine has behind it, all questions are answered from what stands.
func TestOffers(t *testing.T) {
	kinds := map[string]int{}
	for seed := range 40 {
		g := sample.From(seed)
		l := leaderOf(t, fmt.Sprint("leader ", seed), []api.Opts{two, treed, eight}[seed%3])
		for range 60 {
			switch g.Below(8) {
			case 0, 1, 2, 3:
				l.update(g.Below(12), z(byte(g.Below(5))))
			case 4, 5:
				answers(t, "17.4: Sync", l.e.Sync(), api.OK)
			case 6:
				answers(t, "17.4: CompactStep", l.step(g.Below(4)), api.OK)
			case 7:
				if g.Below(4) == 0 {
					l.d.Crash([]api.Cut{{Name: "j1", Keep: g.Below(99)}, {Name: "j3", Keep: g.Below(99)}})
					l.opened()
				}
			}
			for range 3 {
				b := l.offer(g.Below(l.e.Synced()+1), []int{0, g.Below(13), 1 << 48, 1<<48 + 1}[g.Below(4)], 1+g.Below(1024>>g.Below(11)))
				kinds[fmt.Sprint(b.Kind, len(b.Updates) > 0, len(b.Pairs) > 0, b.Last)]++
			}
		}
	}
	if len(kinds) != 5 {
		t.Errorf("22.2: what was offered: %v", kinds)
	}
}

// TestOfferRefused: the refusals, in their order.
func TestOfferRefused(t *testing.T) {
	const least, most = -1 << 63, 1<<63 - 1
	l := leaderOf(t, "refusals", eight)
	for id := range 3 {
		l.update(id, z(1))
	}
	l.e.Sync()
	l.update(3, z(3))
	wrong := [][3]int{{-1, 0, 1}, {least, 0, 1}, {0, -1, 1}, {0, least, 1}, {0, 1<<48 + 2, 1}, {0, most, 1}, {0, 0, 0}, {0, 0, -1}, {0, 0, least}, {0, 0, 1025}, {0, 0, most}, {4, 0, 0}, {most, -1, 1}, {-1, -1, -1}}
	check := func(c [3]int, want api.Errno) {
		t.Helper()
		was := seen(l.d)
		if b, f := follow.Offer(l.e, c[0], c[1], c[2]); f != want || !same(b, api.Batch{}) || seen(l.d) != was {
			t.Errorf("22.2: Offer%v: %s, %d, want %d", c, short(b), f, want)
		}
	}
	for _, c := range wrong {
		check(c, api.ErrRange)
	}
	for _, c := range [][3]int{{4, 0, 1}, {5, 1<<48 + 1, 1024}, {most, 0, 1}} {
		check(c, api.ErrAhead)
	}
	for _, c := range [][3]int{{3, 0, 1}, {0, 1<<48 + 1, 1}, {2, 0, 1024}} {
		l.offer(c[0], c[1], c[2])
	}
	wrong = append(wrong, [3]int{4, 0, 1}, [3]int{0, 0, 1})
	l.d.Arm(1, false)
	answers(t, "the power goes: Sync", l.e.Sync(), api.ErrDown)
	for _, c := range wrong {
		check(c, api.ErrDown)
	}
	l.d.Crash(nil)
	for _, c := range wrong {
		check(c, api.ErrDown)
	}
	l.e.Close()
	for _, c := range wrong {
		check(c, api.ErrClosed)
	}
}

// TestOfferIsNew: what is done with a batch is not seen in the engine, nor in another.
func TestOfferIsNew(t *testing.T) {
	for _, flushed := range []bool{false, true} {
		l := leaderOf(t, fmt.Sprint("flushed ", flushed), two)
		for id := range 5 {
			l.update(id, z(byte(id)))
		}
		l.e.Sync()
		if flushed {
			l.step(9)
		}
		b, other := l.offer(0, 0, 3), l.offer(0, 0, 3)
		for i := range b.Updates[:cap(b.Updates)] {
			b.Updates[:cap(b.Updates)][i] = dead(9, 9)
		}
		for i := range b.Pairs[:cap(b.Pairs)] {
			b.Pairs[:cap(b.Pairs)][i] = pair(9, "x")
		}
		if !same(other, l.offer(0, 0, 3)) || other.Kind == 1 == flushed {
			t.Errorf("22.2: %s: an offer is no new memory", l.where)
		}
	}
}

// TestOfferBehindWhatIsNotSynced: an engine whose journal does not reach back tells nothing of its pairs, until all is synced.
func TestOfferBehindWhatIsNotSynced(t *testing.T) {
	l := leaderOf(t, "not synced", treed)
	for id := range 4 {
		l.update(id, z(1))
	}
	answers(t, "17.4: CompactStep", l.step(1), api.OK)
	if b := l.offer(0, 0, 9); !same(b, last(0, 4, pair(0, z(1)), pair(1, z(1)), pair(2, z(1)), pair(3, z(1)))) {
		t.Errorf("22.2: %s", short(b))
	}
	l.update(0, "")
	for _, at := range []int{0, 3, 4} {
		if b := l.offer(at, 0, 9); !same(b, tail(at)) {
			t.Errorf("22.2: at %d: %s", at, short(b))
		}
	}
	l.e.Sync()
	if b := l.offer(4, 0, 9); !same(b, tail(4, dead(5, 0))) {
		t.Errorf("22.2: %s", short(b))
	}
	for from, want := range map[int]api.Batch{0: piece(0, 5, pair(1, z(1)), pair(2, z(1))), 2: last(2, 5, pair(2, z(1)), pair(3, z(1))), 3: last(3, 5, pair(3, z(1))), 4: last(4, 5), 1<<48 + 1: last(1<<48+1, 5)} {
		if b := l.offer(3, from, 2); !same(b, want) {
			t.Errorf("22.2: from %d: %s", from, short(b))
		}
	}
}
