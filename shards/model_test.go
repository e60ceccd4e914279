package shards_test

import (
	"cmp"
	"fmt"
	"maps"
	"math"
	"slices"
	"strings"
	"testing"

	"kindred/api"
	"kindred/disk"
	"kindred/engine"
	"kindred/internal/sample"
	"kindred/shards"
)

// z is a code of 64 bits, its last byte this one.
func z(last byte) string { return strings.Repeat("\x00", 7) + string([]byte{last}) }

// number is a number as a code of 64 bits.
func number(n int) string {
	return string([]byte{0, 0, 0, 0, byte(n >> 24), byte(n >> 16), byte(n >> 8), byte(n)})
}

// store is an engine and its disk.
type store struct {
	t *testing.T
	d *disk.Disk
	e *engine.Engine
}

func storeOf(t *testing.T, o api.Opts, pairs ...api.Pair) *store {
	t.Helper()
	s := storeOn(t, disk.New(1<<28), o)
	for _, p := range pairs {
		answers(t, fmt.Sprint("17.4: Insert ", p.ID), s.e.Insert(p.ID, p.Code), api.OK)
	}
	return s
}

func storeOn(t *testing.T, d *disk.Disk, o api.Opts) *store {
	t.Helper()
	e, f := engine.Create(d, o)
	answers(t, "17.1: Create", f, api.OK)
	return &store{t: t, d: d, e: e}
}

// reopen closes the engine and opens its store again.
func (s *store) reopen() {
	s.t.Helper()
	s.e.Close()
	e, f := engine.Open(s.d)
	answers(s.t, "17.1: Open", f, api.OK)
	s.e = e
}

// cutOff lets the power go at the next write.
func (s *store) cutOff() {
	s.t.Helper()
	s.d.Arm(1, false)
	answers(s.t, "the power goes: Insert", s.e.Insert(1<<40, strings.Repeat("p", s.e.Opts().Width/8)), api.ErrDown)
}

// seen is all that a disk tells of itself.
func (s *store) seen() string {
	var b strings.Builder
	fmt.Fprintln(&b, s.d.Down(), s.d.Used(), s.d.Writes(), s.d.Age(), s.d.Image())
	for _, name := range s.d.Names() {
		n, _ := s.d.Size(name)
		x, _ := s.d.Read(name, 0, n)
		fmt.Fprintln(&b, name, x)
	}
	return b.String()
}

func enginesOf(stores ...*store) []*engine.Engine {
	var list []*engine.Engine
	for _, s := range stores {
		list = append(list, s.e)
	}
	return list
}

// shardsOf are shards of engines that New must take.
func shardsOf(t *testing.T, stores ...*store) *shards.Shards {
	t.Helper()
	s, f := shards.New(enginesOf(stores...))
	if s == nil || f != api.OK {
		t.Fatalf("21.2: New of %d engines: %v, %d", len(stores), s, f)
	}
	return s
}

// storesOf are so many empty stores of a width, of all modes by turns.
func storesOf(t *testing.T, w, n int) []*store {
	t.Helper()
	all := optsOf(w)
	var list []*store
	for i := range n {
		list = append(list, storeOf(t, all[i%len(all)]))
	}
	return list
}

// optsOf are modes for codes of this width: the fewest chunks, none, the most, an uneven number.
func optsOf(w int) []api.Opts {
	return []api.Opts{{Width: w, Chunks: (w + 31) / 32, Mode: api.Chunked}, {Width: w, Mode: api.Treed}, {Width: w, Chunks: w / 8, Mode: api.Chunked}, {Width: w, Chunks: w/16 - 1, Mode: api.Chunked}}
}

func answers(t *testing.T, what string, got, want api.Errno) {
	t.Helper()
	if got != want {
		t.Fatalf("%s: %d, want %d", what, got, want)
	}
}

// hitsAre: a search has told just these.
func hitsAre(t *testing.T, what string, got []api.Hit, refusal api.Errno, want []api.Hit) {
	t.Helper()
	if refusal != api.OK || !slices.Equal(got, want) {
		t.Fatalf("21.4: %s: %s, %d, want %s", what, told(got), refusal, told(want))
	}
}

// told is a list of hits, not too much of it.
func told(list []api.Hit) string {
	s := fmt.Sprint(len(list), " hits")
	for _, h := range list[:min(len(list), 30)] {
		s += fmt.Sprintf(" %d:%d:%x", h.Dist, h.ID, h.Code)
	}
	return s
}

// looked is a plain look: all pairs as hits for q.
func looked(pairs map[int]string, q string) []api.Hit {
	hits := make([]api.Hit, 0, len(pairs))
	for id, code := range pairs {
		d := 0
		for i := range len(q) {
			for x := q[i] ^ code[i]; x != 0; x &= x - 1 {
				d++
			}
		}
		hits = append(hits, api.Hit{Dist: d, ID: id, Code: code})
	}
	slices.SortFunc(hits, func(x, y api.Hit) int {
		return cmp.Or(cmp.Compare(x.Dist, y.Dist), cmp.Compare(x.ID, y.ID))
	})
	return hits
}

// within are those hits, in order, that are not beyond r.
func within(hits []api.Hit, r int) []api.Hit {
	n := 0
	for n < len(hits) && hits[n].Dist <= r {
		n++
	}
	return hits[:n]
}

// many are shards, and beside them an engine of each mode with all their pairs. Every call is made on all of them, and questions are held against a plain look, too.
type many struct {
	t      *testing.T
	where  string
	w      int
	stores []*store
	s      *shards.Shards
	ones   []*engine.Engine
	pairs  map[int]string
}

func manyOf(t *testing.T, w, n int) *many {
	t.Helper()
	m := &many{t: t, where: fmt.Sprintf("%d shards of width %d", n, w), w: w, stores: storesOf(t, w, n), pairs: map[int]string{}}
	for _, o := range optsOf(w)[:2] {
		m.ones = append(m.ones, storeOf(t, o).e)
	}
	m.s = shardsOf(t, m.stores...)
	return m
}

// as: what the shards answer, each engine that has all pairs answers.
func (m *many) as(what, got string, one func(e *engine.Engine) string) {
	m.t.Helper()
	for _, e := range m.ones {
		if want := one(e); got != want {
			m.t.Fatalf("21.6: %s: %s: %.900s, one engine %v answers %.900s", m.where, what, got, e.Opts(), want)
		}
	}
}

func (m *many) insert(id int, code string) {
	m.t.Helper()
	got := m.s.Insert(id, code)
	if got == api.OK {
		m.pairs[id] = code
	}
	m.as(fmt.Sprintf("Insert(%d, %x)", id, code), fmt.Sprint(got), func(e *engine.Engine) string { return fmt.Sprint(e.Insert(id, code)) })
}

func (m *many) delete(id int) {
	m.t.Helper()
	got := m.s.Delete(id)
	if got == api.OK {
		delete(m.pairs, id)
	}
	m.as(fmt.Sprintf("Delete(%d)", id), fmt.Sprint(got), func(e *engine.Engine) string { return fmt.Sprint(e.Delete(id)) })
}

func (m *many) get(id int) {
	m.t.Helper()
	code, got := m.s.Get(id)
	if want, lives := m.pairs[id]; code != want || (got == api.OK) != lives {
		m.t.Fatalf("21.3: %s: Get(%d): %x, %d, want %x", m.where, id, code, got, want)
	}
	m.as(fmt.Sprintf("Get(%d)", id), fmt.Sprintf("%x %d", code, got), func(e *engine.Engine) string {
		code, f := e.Get(id)
		return fmt.Sprintf("%x %d", code, f)
	})
}

func (m *many) topK(q string, k int) {
	m.t.Helper()
	hits, got := m.s.TopK(q, k)
	if len(q) == m.w/8 && k >= 0 && k <= 4096 {
		all := looked(m.pairs, q)
		hitsAre(m.t, fmt.Sprintf("%s: TopK(%x, %d)", m.where, q, k), hits, got, all[:min(k, len(all))])
	}
	m.as(fmt.Sprintf("TopK(%x, %d)", q, k), fmt.Sprintf("%x %d", hits, got), func(e *engine.Engine) string {
		hits, _, f := e.TopK(q, k)
		return fmt.Sprintf("%x %d", hits, f)
	})
}

func (m *many) radius(q string, r int) {
	m.t.Helper()
	hits, got := m.s.Radius(q, r)
	if len(q) == m.w/8 && r >= 0 && r <= m.w {
		hitsAre(m.t, fmt.Sprintf("%s: Radius(%x, %d)", m.where, q, r), hits, got, within(looked(m.pairs, q), r))
	}
	m.as(fmt.Sprintf("Radius(%x, %d)", q, r), fmt.Sprintf("%x %d", hits, got), func(e *engine.Engine) string {
		hits, _, f := e.Radius(q, r)
		return fmt.Sprintf("%x %d", hits, f)
	})
}

func (m *many) sync() {
	m.t.Helper()
	m.as("Sync", fmt.Sprint(m.s.Sync()), func(e *engine.Engine) string { return fmt.Sprint(e.Sync()) })
	for i, s := range m.stores {
		if s.e.Synced() != s.e.Seq() {
			m.t.Fatalf("21.5: %s: engine %d is synced up to %d of %d", m.where, i, s.e.Synced(), s.e.Seq())
		}
	}
}

func (m *many) count() {
	m.t.Helper()
	if got := m.s.Count(); got != len(m.pairs) {
		m.t.Fatalf("21.5: %s: Count is %d, want %d", m.where, got, len(m.pairs))
	}
	m.as("Count", fmt.Sprint(m.s.Count()), func(e *engine.Engine) string { return fmt.Sprint(e.Count()) })
}

// apart: each engine has just the pairs that belong to it.
func (m *many) apart() {
	m.t.Helper()
	for i, s := range m.stores {
		var want []api.Pair
		for _, id := range slices.Sorted(maps.Keys(m.pairs)) {
			if id%len(m.stores) == i {
				want = append(want, api.Pair{ID: id, Code: m.pairs[id]})
			}
		}
		if got, f := s.e.Pairs(0, math.MaxInt); f != api.OK || !slices.Equal(got, want) {
			m.t.Fatalf("21.1: %s: engine %d has %x, %d, want %x", m.where, i, got, f, want)
		}
	}
}

// reopen opens each store again and makes shards of them anew.
func (m *many) reopen() {
	m.t.Helper()
	for _, s := range m.stores {
		s.reopen()
	}
	m.s = shardsOf(m.t, m.stores...)
}

// maker makes calls up.
type maker struct {
	*sample.Source
	w int
}

// id is one of a few, or one at an edge.
func (g maker) id() int {
	edges := []int{0, 1 << 48, 1<<48 - 1, 1<<48 + 1, -1, math.MinInt, math.MaxInt, 1 << 40}
	if g.Below(6) == 0 {
		return edges[g.Below(len(edges))]
	}
	return g.Below(90)
}

// code is near to others or not, and now and then none.
func (g maker) code() string {
	wrong := []string{"", "x", strings.Repeat("a", g.w/8-1), strings.Repeat("a", g.w/8+1), strings.Repeat("a", g.w/4)}
	if g.Below(25) == 0 {
		return wrong[g.Below(len(wrong))]
	}
	b := []byte(strings.Repeat([]string{"\x00", "\xff", "\x0f"}[g.Below(3)], g.w/8))
	for range g.Below(4) {
		b[g.Below(len(b))] ^= 1 << g.Below(8)
	}
	return string(b)
}

func (g maker) k() int {
	return []int{0, 1, 2, 3, 5, 9, 40, 4095, 4096, 4097, -1, math.MinInt, math.MaxInt, g.Below(90)}[g.Below(14)]
}

func (g maker) r() int {
	return []int{0, 1, 2, 3, g.w / 2, g.w/2 + 2, g.w - 1, g.w, g.w + 1, 1024, 1025, -1, math.MinInt, math.MaxInt, g.Below(g.w)}[g.Below(15)]
}

// call makes one call of any kind.
func (g maker) call(m *many) {
	m.t.Helper()
	switch g.Below(12) {
	case 0, 1, 2, 3:
		m.insert(g.id(), g.code())
	case 4, 5:
		m.delete(g.id())
	case 6:
		m.get(g.id())
	case 7:
		m.topK(g.code(), g.k())
	case 8:
		m.radius(g.code(), g.r())
	case 9:
		m.count()
	case 10:
		if g.Below(5) == 0 {
			m.sync()
		}
	case 11:
		_, f := m.stores[g.Below(len(m.stores))].e.CompactStep()
		answers(m.t, "17.4: CompactStep", f, api.OK)
	}
}
