package follow_test

import (
	"fmt"
	"math"
	"slices"
	"strings"
	"testing"

	"kindred/api"
	"kindred/disk"
	"kindred/follow"
	"kindred/internal/sample"
	"kindred/keep"
)

// TestOpen: a new follower, one that is there, other options, another's refusals.
func TestOpen(t *testing.T) {
	for _, c := range []struct {
		o    api.Opts
		want api.Errno
	}{
		{api.Opts{Width: 63}, api.ErrWidth}, {api.Opts{}, api.ErrWidth}, {api.Opts{Width: 64, Chunks: 9, Mode: 1}, api.ErrChunks},
		{api.Opts{Width: 64, Chunks: 8, Mode: 3}, api.ErrMode}, {eight, api.OK}, {treed, api.OK}, {api.Opts{Width: 1024, Chunks: 128, Mode: 1}, api.OK},
	} {
		b := bothOn(t, fmt.Sprint(c.o), "D", 100000, c.o)
		answers(t, fmt.Sprintf("22.3: Open(%v)", c.o), b.open(), c.want)
		if c.want != api.OK {
			continue
		}
		if b.figures() != [3]int{} {
			t.Errorf("22.4, 22.5: a new follower tells %v", b.figures())
		}
		for _, o := range []api.Opts{eight, treed, two, {Width: 128, Chunks: 8, Mode: 1}, {}, {Width: 63}} {
			want := api.ErrTaken
			if o == c.o {
				want = api.OK
			}
			b.o = o
			answers(t, fmt.Sprintf("22.3: Open(%v) of %v", o, c.o), b.open(), want)
		}
	}
	b := bothOn(t, "no room", "D", 10, eight)
	answers(t, "22.3: Open without room", b.open(), api.ErrFull)
	b.disks(func(d *disk.Disk) { d.Create("manifest") })
	answers(t, "22.3: Open of what is no store", b.open(), api.ErrCorrupt)
	b.disks(func(d *disk.Disk) { d.Arm(1, true); d.Delete("manifest") })
	answers(t, "22.3: Open without power", b.open(), api.ErrDown)
}

// TestOpenAgain: what was accepted is there, what was gathered is not; files of nobody are taken away.
func TestOpenAgain(t *testing.T) {
	for _, o := range []api.Opts{eight, treed} {
		b := started(t, fmt.Sprint(o), 100000, o)
		b.must(api.OK, tail(0, put(1, 5, z(1)), put(2, 6, z(2)), dead(3, 5)))
		b.must(api.OK, piece(0, 9, pair(1, z(1)), pair(7, z(2))))
		if b.figures() != [3]int{3, 8, 1} {
			t.Errorf("22.5: %v", b.figures())
		}
		b.disks(func(d *disk.Disk) { d.Create("r77.0") })
		answers(t, "22.3: Open", b.open(), api.OK)
		if b.figures() != [3]int{3, 0, 1} || slices.Contains(b.d.Names(), "r77.0") {
			t.Errorf("22.5: gathered pairs are in memory alone: %v, %v", b.figures(), b.d.Names())
		}
		b.must(api.ErrApart, last(8, 9))
		b.must(api.OK, last(0, 9, pair(7, z(2))))
		answers(t, "22.3: Open", b.open(), api.OK)
		if b.figures() != [3]int{9, 0, 1} {
			t.Errorf("22.8: behind an Open: %v", b.figures())
		}
	}
}

// TestQuestions: the refusals of Get and TopK, in their order, and that answers are new.
func TestQuestions(t *testing.T) {
	b := started(t, "questions", 100000, eight)
	b.must(api.OK, tail(0, put(1, 5, z(1)), put(2, 1<<48, z(3)), put(3, 0, z(1))))
	for _, c := range []struct {
		id   int
		code string
		want api.Errno
	}{{5, z(1), api.OK}, {1 << 48, z(3), api.OK}, {0, z(1), api.OK}, {1, "", api.ErrGone}, {-1, "", api.ErrID}, {1<<48 + 1, "", api.ErrID}, {math.MinInt, "", api.ErrID}, {math.MaxInt, "", api.ErrID}} {
		if code, e := b.f.Get(c.id); code != c.code || e != c.want {
			t.Errorf("22.4: Get(%d): %x, %d, want %x, %d", c.id, code, e, c.code, c.want)
		}
	}
	for _, c := range []struct {
		q    string
		k    int
		want api.Errno
	}{{"", 0, api.ErrCode}, {"x", -1, api.ErrCode}, {strings.Repeat("x", 16), 9999, api.ErrCode}, {z(0), -1, api.ErrK}, {z(0), 4097, api.ErrK}, {z(0), math.MinInt, api.ErrK}, {z(0), math.MaxInt, api.ErrK}, {z(0), 0, api.OK}} {
		if hits, e := b.f.TopK(c.q, c.k); len(hits) != 0 || e != c.want {
			t.Errorf("22.4: TopK(%x, %d): %x, %d, want %d", c.q, c.k, hits, e, c.want)
		}
	}
	want := looked(b.m.pairs, z(1), 9)
	first, _ := b.f.TopK(z(1), 9)
	clear(first[:cap(first)])
	if again, _ := b.f.TopK(z(1), 9); !slices.Equal(again, want) {
		t.Errorf("22.4: an answer is no new memory: %x", again)
	}
	was := seen(b.d)
	b.f.Number()
	b.f.TopK(z(1), 4096)
	if seen(b.d) != was {
		t.Errorf("R2: a question has written")
	}
}

// TestGreatLook: TopK of more pairs than are looked at in one go, with many at one distance.
func TestGreatLook(t *testing.T) {
	for _, n := range []int{4095, 4096, 4097, 8191, 8192, 8193, 13000} {
		var pairs []api.Pair
		all := map[int]string{}
		for i := range n {
			pairs = append(pairs, pair(3*i, number(i*i%997)))
			all[3*i] = number(i * i % 997)
		}
		d := disk.New(1 << 24)
		k, _ := keep.Create(d, treed)
		answers(t, "15.14: Reset", k.Reset(n, pairs), api.OK)
		f, e := follow.Open(d, treed)
		answers(t, "22.3: Open", e, api.OK)
		for _, k := range []int{0, 1, 7, 100, 4095, 4096} {
			for _, q := range []string{number(0), number(996), strings.Repeat("\xff", 8)} {
				if hits, e := f.TopK(q, k); e != api.OK || !slices.Equal(hits, looked(all, q, k)) {
					t.Errorf("22.4: of %d pairs: TopK(%x, %d): %d hits, %d", n, q, k, len(hits), e)
				}
			}
		}
	}
}

// TestUnmade: followers that nobody has made refuse, and tell nothing.
func TestUnmade(t *testing.T) {
	for _, f := range []*follow.Follower{nil, {}} {
		code, e := f.Get(1)
		hits, g := f.TopK(z(0), 1)
		if e != api.ErrDown || g != api.ErrDown || f.Accept(tail(0)) != api.ErrDown || f.Accept(last(0, 1)) != api.ErrDown || code != "" || hits != nil {
			t.Errorf("R1: of a follower that nobody has made: %d, %d", e, g)
		}
		if f.Number() != 0 || f.From() != 0 || f.Count() != 0 {
			t.Errorf("R1: a follower that nobody has made tells %d, %d, %d", f.Number(), f.From(), f.Count())
		}
	}
	if b, e := follow.Offer(nil, 0, 0, 1); e != api.ErrClosed || !same(b, api.Batch{}) {
		t.Errorf("R1: Offer of no engine: %d", e)
	}
}

// maker makes batches up.
type maker struct{ *sample.Source }

func (g maker) code() string {
	if g.Below(40) == 0 {
		return []string{"", "x", strings.Repeat("a", 7), strings.Repeat("a", 16)}[g.Below(4)]
	}
	return z(byte(g.Below(4)))
}

func (g maker) id() int {
	if g.Below(40) == 0 {
		return []int{-1, 1 << 48, 1<<48 + 1, math.MaxInt, math.MinInt}[g.Below(5)]
	}
	return g.Below(14)
}

// updates behind the at-th: mostly such as can be made.
func (g maker) updates(at int, pairs map[int]string) api.Batch {
	var list []api.Update
	for i := range g.Below(6) {
		id := g.id()
		u := put(at+1+i, id, g.code())
		now, ok := played(pairs, 64, list)
		if _, lives := now[id]; ok && lives && g.Below(15) > 0 || g.Below(40) == 0 {
			u = dead(at+1+i, id)
		}
		list = append(list, u)
	}
	return tail(at, list...)
}

// pairs from an id on, as of an update.
func (g maker) pairs(at, seq int) api.Batch {
	b := piece(at, seq)
	for id := at; len(b.Pairs) < g.Below(6); id++ {
		if id += g.Below(4); id > 25 && g.Below(20) > 0 {
			break
		}
		b.Pairs = append(b.Pairs, pair(id, g.code()))
	}
	b.Last = len(b.Pairs) == 0 || g.Below(3) == 0
	return b
}

// batch is mostly one that follows.
func (g maker) batch(m *twin) api.Batch {
	at := m.k.Seq()
	if g.Below(8) == 0 {
		at += g.Below(5) - 2
	}
	if g.Below(2) == 0 {
		return g.updates(at, m.pairs)
	}
	from, seq := m.tells()[1], m.asOf
	if seq == 0 || g.Below(6) == 0 {
		seq = m.k.Seq() + g.Below(30)
	}
	if g.Below(9) == 0 {
		from = g.Below(20)
	}
	return g.pairs(from, seq)
}

// spoil makes something of a batch that may be none.
func (g maker) spoil(b api.Batch) api.Batch {
	edges := []int{math.MinInt, -1, 0, 1, 2, 1 << 60, 1<<60 + 1, math.MaxInt, b.At - 1, b.At + 1, b.Seq - 1, b.Seq + 1}
	n := edges[g.Below(len(edges))]
	switch g.Below(9) {
	case 0:
		b.Kind = n
	case 1:
		b.At = n
	case 2:
		b.Seq = n
	case 3:
		b.Last = !b.Last
	case 4:
		b.Pairs = append(slices.Clone(b.Pairs), pair(n, z(1)))
	case 5:
		b.Updates = append(slices.Clone(b.Updates), put(n, 3, z(1)))
	case 6:
		b.Updates = nil
	case 7:
		b.Pairs = nil
	case 8:
		b.Kind = 3 - b.Kind
	}
	return b
}

// TestMadeUpBatches: a follower and its twin are sent the same.
func TestMadeUpBatches(t *testing.T) {
	answered := map[api.Errno]int{}
	for seed := range 150 {
		g := maker{sample.From(seed)}
		b := started(t, fmt.Sprint("batches ", seed), 1<<20, []api.Opts{two, treed, eight}[seed%3])
		for range 60 {
			batch := g.batch(b.m)
			if g.Below(5) == 0 {
				batch = g.spoil(batch)
			}
			writes, was := b.d.Writes(), b.figures()
			e := b.accept(batch)
			answered[e]++
			if e == api.ErrBatch || e == api.ErrApart || e == api.ErrDiverged {
				if now := b.figures(); b.d.Writes() != writes || now[0] != was[0] || now[2] != was[2] {
					t.Fatalf("22.12: %s: Accept%s was refused with %d: %v, was %v", b.where, short(batch), e, now, was)
				}
			}
			if e == api.OK && len(batch.Updates) > 0 {
				b.must(api.ErrApart, batch)
			}
			if g.Below(12) == 0 {
				answers(t, "22.3: Open", b.open(), api.OK)
			}
		}
	}
	for _, e := range []api.Errno{api.OK, api.ErrBatch, api.ErrApart, api.ErrDiverged, api.ErrCode, api.ErrID} {
		if answered[e] < 5 {
			t.Errorf("22.6: what was answered: %v", answered)
		}
	}
}
