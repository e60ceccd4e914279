package engine_test

import (
	"fmt"
	"slices"
	"testing"

	"kindred/api"
	"kindred/disk"
	"kindred/engine"
	"kindred/internal/sample"
)

// TestEveryWidth: all widths, with the fewest and the most chunks and some between, and the tree.
func TestEveryWidth(t *testing.T) {
	for w := 64; w <= 1024; w += 64 {
		for _, o := range []api.Opts{{Width: w, Chunks: w / 32, Mode: 1}, {Width: w, Chunks: w/32 + 1, Mode: 1}, {Width: w, Chunks: w / 8, Mode: 1}, {Width: w, Mode: 2}} {
			b := bothOn(t, fmt.Sprintf("%+v", o), 1<<22)
			b.quiet = true
			b.must("Create", b.create(o))
			g := from(w)
			middle := g.Text(w / 8)
			for id := range 12 {
				b.must("Insert", b.insert(id, g.near(middle, id*id/3)))
			}
			b.must("Delete", b.delete(3))
			for range 4 {
				b.agree("updates")
			}
			b.step()
			b.must("Delete", b.delete(7))
			b.quiet = false
			b.must("Insert", b.insert(3, middle))
			b.must("Open", b.open())
		}
	}
}

// TestLayouts: the same pairs, come to by several ways, are answered alike, what is told of the search too.
func TestLayouts(t *testing.T) {
	for _, o := range []api.Opts{{Width: 64, Chunks: 3, Mode: 1}, eight, treed, {Width: 128, Chunks: 4, Mode: 1}} {
		for seed := range 6 {
			g := from(seed)
			list := pairsOf(g, o.Width, 60)
			ways := map[string]func(w *way){
				"ids rising":  func(w *way) { w.insert(list) },
				"ids falling": func(w *way) { w.insert(reversed(list)) },
				"flushed now and then": func(w *way) {
					for i, p := range list {
						w.insert([]api.Pair{p})
						if i%7 == 0 {
							w.step()
						}
					}
				},
				"compacted": func(w *way) { w.insert(list); w.toTheEnd() },
				"amid a compaction": func(w *way) {
					w.insert(list[:40])
					w.step()
					w.insert(list[40:])
					w.step()
					w.step()
					w.step()
				},
				"others came and went": func(w *way) {
					others := pairsOf(from(seed+99), o.Width, 90)
					w.insert(others)
					w.step()
					w.delete(others)
					w.insert(list)
				},
				"with other codes first": func(w *way) {
					for i, p := range list {
						w.insert([]api.Pair{{ID: p.ID, Code: list[(i+1)%len(list)].Code}})
					}
					w.step()
					for _, p := range list {
						w.delete([]api.Pair{p})
						w.insert([]api.Pair{p})
					}
				},
				"twice, closed and opened": func(w *way) {
					w.insert(list)
					w.open()
					w.delete(list)
					w.open()
					w.insert(reversed(list))
					w.toTheEnd()
					w.open()
				},
			}
			told := map[string][]string{}
			for name, walk := range ways {
				w := newWay(t, o)
				walk(w)
				s := w.all(list)
				told[s] = append(told[s], name)
			}
			if len(told) != 1 {
				t.Fatalf("17.11: %+v: %d answers: %q", o, len(told), fmt.Sprint(told))
			}
		}
	}
}

// pairsOf are some pairs, ids rising, with codes near to one another, some of them several times.
func pairsOf(g maker, width, n int) []api.Pair {
	middle := g.Text(width / 8)
	var list []api.Pair
	for i := range n {
		code := g.near(middle, g.Below(12))
		if i > 0 && g.Below(4) == 0 {
			code = list[g.Below(i)].Code
		}
		list = append(list, api.Pair{ID: 3*i + g.Below(3), Code: code})
	}
	return list
}

func reversed(list []api.Pair) []api.Pair {
	list = slices.Clone(list)
	slices.Reverse(list)
	return list
}

// way is an engine on the way to some pairs.
type way struct {
	t *testing.T
	d *disk.Disk
	e *engine.Engine
}

func newWay(t *testing.T, o api.Opts) *way {
	d := disk.New(1 << 26)
	e, refusal := engine.Create(d, o)
	answers(t, "17.1", refusal, api.OK)
	return &way{t: t, d: d, e: e}
}

func (w *way) insert(list []api.Pair) {
	w.t.Helper()
	for _, p := range list {
		answers(w.t, "17.4: Insert", w.e.Insert(p.ID, p.Code), api.OK)
	}
}

func (w *way) delete(list []api.Pair) {
	w.t.Helper()
	for _, p := range list {
		answers(w.t, "17.4: Delete", w.e.Delete(p.ID), api.OK)
	}
}

func (w *way) step() bool {
	w.t.Helper()
	done, e := w.e.CompactStep()
	answers(w.t, "17.4: CompactStep", e, api.OK)
	return done
}

func (w *way) toTheEnd() {
	w.t.Helper()
	for range 10000 { // more than chapter 16 says of any store here
		if w.step() {
			return
		}
	}
	w.t.Fatal("17.4: compacting does not end")
}

func (w *way) open() {
	w.t.Helper()
	answers(w.t, "17.3", w.e.Close(), api.OK)
	var e api.Errno
	w.e, e = engine.Open(w.d)
	answers(w.t, "17.1", e, api.OK)
}

// all is what the engine answers to many questions; hits are held against a plain look.
func (w *way) all(list []api.Pair) string {
	w.t.Helper()
	pairs, _ := w.e.Pairs(0, 1<<30)
	s := fmt.Sprint(w.e.Count(), w.e.Codes(), pairs, w.e.Opts())
	if !slices.Equal(pairs, list) {
		w.t.Fatalf("17.10: %d pairs, want %d", len(pairs), len(list))
	}
	width := w.e.Opts().Width
	for i := range 12 {
		q := list[i].Code
		if i%2 == 0 {
			q = from(i).near(q, i*3)
		}
		want := looked(list, q)
		for _, k := range []int{1, 2, 5, 17, len(list), 4096} {
			hits, stats, e := w.e.TopK(q, k)
			if e != api.OK || !slices.Equal(hits, want[:min(k, len(want))]) {
				w.t.Fatalf("17.10: TopK(%q, %d): %s, %d, want %s", q, k, brief(hits), e, brief(want))
			}
			few, stats2, e := w.e.Few(q, k, 2)
			s += fmt.Sprint(stats, brief(few), stats2, int(e))
		}
		for r := 0; r <= width; r += 1 + r/4 {
			hits, stats, e := w.e.Radius(q, r)
			near := slices.DeleteFunc(slices.Clone(want), func(h api.Hit) bool { return h.Dist > r })
			if e != api.OK || !slices.Equal(hits, near) {
				w.t.Fatalf("17.10: Radius(%q, %d): %s, %d, want %s", q, r, brief(hits), e, brief(near))
			}
			s += fmt.Sprint(stats)
		}
	}
	return s
}

// TestTies: many pairs as far as the k-th, of many codes and of one: the least ids are answered.
func TestTies(t *testing.T) {
	for _, o := range []api.Opts{two, eight, treed} {
		w := newWay(t, o)
		var list []api.Pair
		for i := range 64 {
			b := make([]byte, 8)
			b[i/8] = 1 << (i % 8)
			list = append(list, api.Pair{ID: (i*37)%64 + 100, Code: string(b)}, api.Pair{ID: (i * 29) % 64, Code: z(0)})
		}
		w.insert(list)
		slices.SortFunc(list, func(a, b api.Pair) int { return a.ID - b.ID })
		for k := range len(list) + 2 {
			hits, _, e := w.e.TopK(z(0), k)
			want := looked(list, z(0))
			if e != api.OK || !slices.Equal(hits, want[:min(k, len(want))]) {
				t.Fatalf("17.6: %+v: TopK(z, %d): %s, %d", o, k, brief(hits), e)
			}
		}
		for k := range 140 {
			hits, _, _ := w.e.TopK(same(0xff), k)
			want := looked(list, same(0xff))
			if !slices.Equal(hits, want[:min(k, len(want))]) {
				t.Fatalf("17.6: %+v: TopK(f, %d): %s", o, k, brief(hits))
			}
		}
	}
}

// TestManyOfOneCode: more pairs than a search may answer, all with one code; they come and go in any order.
func TestManyOfOneCode(t *testing.T) {
	for _, o := range []api.Opts{two, treed} {
		d := disk.New(1 << 26)
		e, _ := engine.Create(d, o)
		const n = 20000
		ids := make([]int, n)
		for i := range ids {
			ids[i] = i
		}
		mix(ids, 1)
		for _, id := range ids {
			answers(t, "17.4", e.Insert(id, z(1)), api.OK)
		}
		hits, _, refusal := e.TopK(z(0), 4096)
		if refusal != api.OK || len(hits) != 4096 || hits[4095] != (api.Hit{Dist: 1, ID: 4095, Code: z(1)}) || !slices.IsSortedFunc(hits, func(a, b api.Hit) int { return a.ID - b.ID }) {
			t.Fatalf("17.6: %+v: %d hits, %d", o, len(hits), refusal)
		}
		if hits, _, refusal := e.Radius(z(0), 1); refusal != api.OK || len(hits) != n || hits[n-1].ID != n-1 || e.Codes() != 1 {
			t.Fatalf("17.6: %+v: %d hits, %d", o, len(hits), refusal)
		}
		mix(ids, 2)
		for _, id := range ids[:n-3] {
			answers(t, "17.4", e.Delete(id), api.OK)
		}
		left := slices.Clone(ids[n-3:])
		slices.Sort(left)
		hits, _, _ = e.TopK(z(0), 4096)
		isTold(t, "17.10", fmt.Sprintf("1:%d 1:%d 1:%d ", left[0], left[1], left[2]), brief(hits))
		for _, id := range left {
			answers(t, "17.4", e.Delete(id), api.OK)
		}
		hits, stats, refusal := e.Radius(z(0), 64)
		if len(hits) != 0 || stats != (api.Stats{}) || refusal != api.OK || e.Codes() != 0 || e.Count() != 0 || e.Seq() != 2*n {
			t.Fatalf("17.10: %+v: %s, %v, %d", o, brief(hits), stats, refusal)
		}
	}
}

// mix puts a list in another order.
func mix(list []int, seed int) {
	g := sample.From(seed)
	for i := len(list) - 1; i > 0; i-- {
		j := g.Below(i + 1)
		list[i], list[j] = list[j], list[i]
	}
}

// TestMany: a few thousand codes, in every layout, against a plain look.
func TestMany(t *testing.T) {
	for _, o := range []api.Opts{{Width: 64, Chunks: 4, Mode: 1}, treed, {Width: 256, Chunks: 16, Mode: 1}, {Width: 256, Mode: 2}} {
		g := from(o.Width + o.Mode)
		w := newWay(t, o)
		pairs := map[int]string{}
		var middles []string
		for range 40 {
			middles = append(middles, g.Text(o.Width/8))
		}
		for i := range 6000 {
			id := g.Below(4000)
			if _, lives := pairs[id]; lives {
				answers(t, "17.4", w.e.Delete(id), api.OK)
				delete(pairs, id)
			} else {
				code := g.near(middles[g.Below(len(middles))], g.Below(9))
				answers(t, "17.4", w.e.Insert(id, code), api.OK)
				pairs[id] = code
			}
			switch {
			case i%500 == 0:
				w.step()
			case i%1500 == 7:
				w.open()
			}
			if i%400 == 399 {
				w.check(g, pairs, middles)
			}
		}
		w.toTheEnd()
		w.check(g, pairs, middles)
	}
}

func (w *way) check(g maker, pairs map[int]string, middles []string) {
	w.t.Helper()
	b := &both{pairs: pairs}
	list := b.list()
	for range 4 {
		q := g.near(middles[g.Below(len(middles))], g.Below(20))
		want := looked(list, q)
		k := 1 + g.Below(60)
		hits, _, e := w.e.TopK(q, k)
		if e != api.OK || !slices.Equal(hits, want[:min(k, len(want))]) {
			w.t.Fatalf("17.10: TopK(%q, %d): %s, %d", q, k, brief(hits), e)
		}
		r := g.Below(24)
		near := slices.DeleteFunc(want, func(h api.Hit) bool { return h.Dist > r })
		hits, _, e = w.e.Radius(q, r)
		if e != api.OK || !slices.Equal(hits, near) {
			w.t.Fatalf("17.10: Radius(%q, %d): %s, %d, want %s", q, r, brief(hits), e, brief(near))
		}
	}
}

// TestMostWords: so many words as may wait; then the engine wants compacting, and goes on behind it.
func TestMostWords(t *testing.T) {
	for _, o := range []api.Opts{two, treed} {
		d := disk.New(1 << 27)
		e, _ := engine.Create(d, o)
		g := from(7)
		for id := range api.MaxDelta {
			answers(t, "17.4", e.Insert(id, g.Text(8)), api.OK)
		}
		answers(t, "17.4: one word more", e.Insert(api.MaxDelta, z(0)), api.ErrBusy)
		if _, _, refusal := e.Radius(z(0), 64); refusal != api.OK || e.Count() != api.MaxDelta {
			t.Fatalf("17.10: %d, %d pairs", refusal, e.Count())
		}
		if hits, _, _ := e.Radius(z(0), 0); len(hits) != 0 {
			t.Fatalf("17.10: %s", brief(hits))
		}
		answers(t, "17.4: of a word that waits", e.Delete(5), api.OK)
		_, refusal := e.CompactStep()
		answers(t, "17.4: a flush", refusal, api.OK)
		answers(t, "17.4: behind it", e.Insert(api.MaxDelta, z(0)), api.OK)
		hits, _, _ := e.Radius(z(0), 0)
		isTold(t, "17.10", fmt.Sprint("0:", api.MaxDelta, " "), brief(hits))
	}
}
