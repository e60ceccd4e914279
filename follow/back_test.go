package follow_test

import (
	"fmt"
	"maps"
	"testing"

	"kindred/api"
	"kindred/disk"
	"kindred/follow"
	"kindred/internal/sample"
)

// trail is a follower, its disk, what it was sent and may be sent again, and the number below which it may never fall.
type trail struct {
	t     *testing.T
	where string
	o     api.Opts
	d     *disk.Disk
	f     *follow.Follower
	sent  []api.Batch
	floor int
}

func trailOf(t *testing.T, where string, o api.Opts, capacity int) *trail {
	t.Helper()
	f := &trail{t: t, where: where, o: o, d: disk.New(capacity)}
	f.open()
	return f
}

func (f *trail) open() {
	f.t.Helper()
	x, e := follow.Open(f.d, f.o)
	if e == api.ErrDown {
		f.d.Crash(nil)
		x, e = follow.Open(f.d, f.o)
	}
	answers(f.t, f.where+": 22.3: Open", e, api.OK)
	f.f = x
}

// accept is a batch as it comes; without power the follower is opened again.
func (f *trail) accept(b api.Batch, cuts []api.Cut) api.Errno {
	f.t.Helper()
	was := [3]int{f.f.Number(), f.f.From(), f.f.Count()}
	e := f.f.Accept(b)
	switch e {
	case api.OK:
		f.floor = max(f.floor, f.f.Number())
	case api.ErrDown:
		if now := [3]int{f.f.Number(), f.f.From(), f.f.Count()}; now != was {
			f.t.Fatalf("22.4: %s: given up it tells %v, was %v", f.where, now, was)
		}
		f.d.Crash(cuts)
		f.open()
	}
	if f.d.Down() { // it went where a refusal was let go
		f.d.Crash(cuts)
		f.open()
	}
	return e
}

// is: the follower is where the leader was at its number, and not below where it was.
func (f *trail) is(l *leader) {
	f.t.Helper()
	n := f.f.Number()
	if n < f.floor {
		f.t.Fatalf("22.10: %s: it is at %d, and was at %d", f.where, n, f.floor)
	}
	want := l.pairsAt(n)
	got := map[int]string{}
	hits, e := f.f.TopK(z(0), 4096)
	for _, h := range hits {
		got[h.ID] = h.Code
	}
	if e != api.OK || !maps.Equal(got, want) || f.f.Count() != len(want) {
		f.t.Fatalf("22.10: %s: at %d it has %x, %d, want %x", f.where, n, got, e, want)
	}
}

// someCuts are what is left of each file's unsynced bytes.
func someCuts(g *sample.Source, d *disk.Disk) []api.Cut {
	var cuts []api.Cut
	for _, name := range append(names(), d.Names()...) {
		cuts = append(cuts, api.Cut{Name: name, Keep: g.Below(120), Spoil: byte(g.Below(4) / 3)})
	}
	return cuts
}

// names are those that files may have which are written while the power goes.
func names() []string {
	list := []string{"manifest.new"}
	for n := range 60 {
		list = append(list, fmt.Sprint("j", n), fmt.Sprint("r", n, ".0"), fmt.Sprint("r", n, ".1"))
	}
	return list
}

// TestNeverBack (22.10): an engine and followers, batches late, twice and lost, the power gone at any write of either.
func TestNeverBack(t *testing.T) {
	answered := map[api.Errno]int{}
	cuts, resets := 0, 0
	for seed := range 250 {
		g := sample.From(seed)
		l := leaderOf(t, fmt.Sprint("seed ", seed, ": leader"), []api.Opts{two, treed}[seed%2])
		var all []*trail
		for i := range 3 {
			all = append(all, trailOf(t, fmt.Sprint("seed ", seed, ": follower ", i), []api.Opts{two, treed}[(seed+i)%2], 1<<20))
		}
		for range 120 {
			if g.Below(9) == 0 {
				l.d.Arm(1+g.Below(12), g.Below(2) == 0)
			}
			f := all[g.Below(3)]
			if g.Below(9) == 0 {
				f.d.Arm(1+g.Below(9), g.Below(2) == 0)
			}
			switch g.Below(8) {
			case 0, 1, 2:
				leads(g, l)
			default:
				age := f.d.Age()
				before := f.f.Number()
				e := follows(g, l, f)
				answered[e]++
				cuts += f.d.Age() - age
				if e == api.OK && f.f.Number() > before+1 {
					resets++
				}
			}
			for _, f := range all {
				f.is(l)
			}
		}
	}
	if answered[api.OK] < 5000 || answered[api.ErrApart] < 500 || answered[api.ErrDown] < 100 || answered[api.ErrDiverged] > 0 || answered[api.ErrBatch] > 0 || cuts < 200 || resets < 200 {
		t.Errorf("22.10: what was answered: %v, %d cuts, %d leaps", answered, cuts, resets)
	}
}

// leads is something that the engine does.
func leads(g *sample.Source, l *leader) {
	l.t.Helper()
	f := api.OK
	switch g.Below(6) {
	case 0, 1, 2:
		for range 1 + g.Below(4) {
			if f = l.update(g.Below(12), z(byte(g.Below(5)))); f != api.OK {
				break
			}
		}
	case 3, 4:
		f = l.e.Sync()
	case 5:
		f = l.step(1 + g.Below(6))
	}
	if f == api.ErrDown || g.Below(30) == 0 {
		l.d.Crash(someCuts(g, l.d))
		l.opened()
	}
}

// follows is something that a follower is sent: what it wants, or what it was sent before.
func follows(g *sample.Source, l *leader, f *trail) api.Errno {
	l.t.Helper()
	if l.d.Down() {
		l.d.Crash(someCuts(g, l.d))
		l.opened()
	}
	if len(f.sent) == 0 || g.Below(3) > 0 {
		b, e := follow.Offer(l.e, f.f.Number(), f.f.From(), 1+g.Below(5))
		if e == api.ErrAhead && f.f.Number() > l.e.Synced() {
			return e // behind a cut the engine does not know yet what is certain
		}
		answers(l.t, l.where+": 22.2: Offer", e, api.OK)
		f.sent = append(f.sent, b)
		if g.Below(4) == 0 {
			return api.OK // it comes later, or never
		}
		return f.accept(b, someCuts(g, f.d))
	}
	return f.accept(f.sent[g.Below(len(f.sent))], someCuts(g, f.d))
}

// TestItArrives (22.11): from wherever it is, with whatever it has gathered, a follower comes to where the engine was synced.
func TestItArrives(t *testing.T) {
	refused := 0
	for seed := range 400 {
		g := sample.From(seed)
		l := leaderOf(t, fmt.Sprint("seed ", seed, ": leader"), []api.Opts{two, treed}[seed%2])
		f := trailOf(t, fmt.Sprint("seed ", seed, ": follower"), []api.Opts{treed, two, eight}[seed%3], 1<<20)
		for range 1 + g.Below(4) {
			for range g.Below(40) {
				l.update(g.Below(25), z(byte(g.Below(5))))
			}
			answers(t, "17.4: Sync", l.e.Sync(), api.OK)
			if g.Below(2) == 0 {
				answers(t, "17.4: CompactStep", l.step(g.Below(30)), api.OK)
			}
			for range g.Below(3) { // on the way, and then it is left alone
				f.accept(l.offer(f.f.Number(), f.f.From(), 1+g.Below(7)), nil)
			}
		}
		answers(t, "17.4: Sync", l.e.Sync(), api.OK)
		most := []int{1, 2, 3, 7, 1024}[g.Below(5)]
		bound := max(l.e.Seq()-f.f.Number(), l.e.Count())/most + 2
		apart := 0
		for n := 0; f.f.Number() < l.e.Seq(); n++ {
			if n == bound {
				t.Fatalf("22.11: %s: behind %d batches of %d it is at %d of %d", f.where, n, most, f.f.Number(), l.e.Seq())
			}
			switch e := f.accept(l.offer(f.f.Number(), f.f.From(), most), nil); {
			case e == api.ErrApart && f.f.From() == 0:
				apart++
			case e != api.OK:
				t.Fatalf("22.11: %s: Accept: %d", f.where, e)
			}
		}
		if apart > 1 {
			t.Fatalf("22.11: %s: %d batches were refused", f.where, apart)
		}
		refused += apart
		f.is(l)
	}
	if refused < 20 {
		t.Errorf("22.11: only %d pieces came where others were gathered as of another update", refused)
	}
}
