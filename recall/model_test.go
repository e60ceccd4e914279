package recall_test

import (
	"cmp"
	"fmt"
	"slices"
	"strings"
	"testing"

	"kindred/api"
	"kindred/disk"
	"kindred/engine"
	"kindred/internal/sample"
)

// A second writing of the chapter, that of Few too: every code is looked at, and from its nearest chunk it is told how many shells it needs.

// model is pairs of unlike ids, and into how many chunks their codes are cut.
type model struct {
	m     int
	pairs []api.Pair
}

// apart is in how many of the bits from one on, ahead of another, two codes are unlike.
func apart(a, b string, from, end int) int {
	d := 0
	for i := from; i < end; i++ {
		if a[i/8]>>(7-i%8)&1 != b[i/8]>>(7-i%8)&1 {
			d++
		}
	}
	return d
}

// needs is how many shells must be gone through until a code is looked at.
func (m model) needs(code, q string) int {
	w := 8 * len(code)
	least, from := w, 0
	for j := range m.m {
		end := from + w/m.m
		if j < w%m.m {
			end++
		}
		least = min(least, apart(code, q, from, end))
		from = end
	}
	return least + 1
}

// reach is a pair as a hit, and how many shells it needs.
type reach struct {
	api.Hit
	needs int
}

// from are all pairs as seen from a code, by distance, then id.
func (m model) from(q string) []reach {
	var list []reach
	for _, p := range m.pairs {
		list = append(list, reach{Hit: api.Hit{Dist: apart(p.Code, q, 0, 8*len(q)), ID: p.ID, Code: p.Code}, needs: m.needs(p.Code, q)})
	}
	slices.SortFunc(list, func(a, b reach) int {
		return cmp.Or(cmp.Compare(a.Dist, b.Dist), cmp.Compare(a.ID, b.ID))
	})
	return list
}

// few are the first k of those that so many shells reach.
func few(list []reach, k, shells int) []api.Hit {
	var hits []api.Hit
	for _, x := range list {
		if x.needs <= shells && len(hits) < k {
			hits = append(hits, x.Hit)
		}
	}
	return hits
}

// curve are the shares of no shell, one, two, .. until one is whole.
func (m model) curve(qs []string, k int) []api.Share {
	var lists [][]reach
	for _, q := range qs {
		lists = append(lists, m.from(q))
	}
	var curve []api.Share
	for {
		var sum api.Share
		for _, list := range lists {
			share := ofModel(few(list, k, len(curve)), few(list, k, 1<<20))
			sum = api.Share{Num: sum.Num + share.Num, Den: sum.Den + share.Den}
		}
		curve = append(curve, sum)
		if sum.Num == sum.Den {
			return curve
		}
	}
}

// ofModel holds each two hits against one another.
func ofModel(found, wanted []api.Hit) api.Share {
	share := api.Share{Den: len(wanted)}
	for _, w := range wanted {
		if slices.ContainsFunc(found, func(f api.Hit) bool { return f.ID == w.ID }) {
			share.Num++
		}
	}
	return share
}

// z is a code of 64 bits, its last byte this one.
func z(last byte) string { return strings.Repeat("\x00", 7) + string([]byte{last}) }

// flipped is a code with these bits changed.
func flipped(code string, places ...int) string {
	b := []byte(code)
	for _, i := range places {
		b[i/8] ^= 0x80 >> (i % 8)
	}
	return string(b)
}

// store is an engine with pairs, and its disk.
type store struct {
	t *testing.T
	d *disk.Disk
	e *engine.Engine
}

func storeOf(t *testing.T, o api.Opts, pairs ...api.Pair) *store {
	t.Helper()
	s := &store{t: t, d: disk.New(1 << 28)}
	e, f := engine.Create(s.d, o)
	if f != api.OK {
		t.Fatalf("17.1: Create(%v): %d", o, f)
	}
	s.e = e
	s.insert(pairs...)
	return s
}

func (s *store) insert(pairs ...api.Pair) {
	s.t.Helper()
	for _, p := range pairs {
		if f := s.e.Insert(p.ID, p.Code); f != api.OK {
			s.t.Fatalf("17.4: Insert(%d): %d", p.ID, f)
		}
	}
}

func (s *store) delete(pairs ...api.Pair) {
	s.t.Helper()
	for _, p := range pairs {
		if f := s.e.Delete(p.ID); f != api.OK {
			s.t.Fatalf("17.4: Delete(%d): %d", p.ID, f)
		}
	}
}

// steps are so many steps of compaction, as far as there is something to do.
func (s *store) steps(most int) {
	s.t.Helper()
	for range most {
		done, f := s.e.CompactStep()
		if f != api.OK {
			s.t.Fatalf("17.4: CompactStep: %d", f)
		}
		if done {
			return
		}
	}
}

func (s *store) reopen() {
	s.t.Helper()
	s.e.Close()
	e, f := engine.Open(s.d)
	if f != api.OK {
		s.t.Fatalf("17.1: Open: %d", f)
	}
	s.e = e
}

// seen is all that a disk and its engine tell of themselves.
func (s *store) seen() string {
	var b strings.Builder
	fmt.Fprintln(&b, s.d.Down(), s.d.Used(), s.d.Writes(), s.d.Age(), s.d.Image())
	for _, name := range s.d.Names() {
		n, _ := s.d.Size(name)
		x, _ := s.d.Read(name, 0, n)
		fmt.Fprintln(&b, name, x)
	}
	fmt.Fprintln(&b, s.e.Count(), s.e.Codes(), s.e.Seq(), s.e.Synced(), s.e.Opts())
	return b.String()
}

// layouts are stores with the same pairs that have come to them in other ways.
func layouts(t *testing.T, o api.Opts, pairs []api.Pair) map[string]*store {
	t.Helper()
	half := len(pairs) / 2
	back := slices.Clone(pairs)
	slices.Reverse(back)
	all := map[string]*store{"as they came": storeOf(t, o, pairs...), "the last first": storeOf(t, o, back...)}
	s := storeOf(t, o, pairs[:half]...)
	s.steps(1)
	s.insert(pairs[half:]...)
	all["half of them flushed"] = s
	other := api.Pair{ID: 1 << 47, Code: strings.Repeat("\x00", o.Width/8)}
	s = storeOf(t, o, other)
	for _, p := range pairs {
		s.insert(api.Pair{ID: p.ID, Code: flipped(p.Code, 0, 9, 20)})
	}
	s.steps(1)
	s.delete(pairs...)
	s.insert(pairs...)
	s.steps(3)
	s.delete(other)
	all["compaction under way, others deleted"] = s
	s = storeOf(t, o, pairs...)
	s.steps(1)
	s.delete(pairs[:half]...)
	s.insert(pairs[:half]...)
	s.steps(1 << 20)
	s.reopen()
	all["compacted and opened again"] = s
	return all
}

// chunkings are into how many chunks codes of a width are cut: the fewest, the most, an uneven number.
func chunkings(w int) []int { return []int{(w + 31) / 32, w / 8, w/16 - 1} }

// made are made-up pairs that are near to one another or not, ids in no order, some with the same code.
func made(g *sample.Source, w, n int) []api.Pair {
	centres := []string{g.Text(w / 8), g.Text(w / 8), strings.Repeat("\xff", w/8)}
	ids := map[int]bool{}
	var list []api.Pair
	for len(list) < n {
		id := []int{g.Below(3 * n), g.Below(1 << 48), 1<<48 - g.Below(n)}[g.Below(3)]
		if ids[id] {
			continue
		}
		ids[id] = true
		code := centres[g.Below(3)]
		for range g.Below(w / 4) {
			code = flipped(code, g.Below(w))
		}
		if g.Below(4) == 0 && len(list) > 0 {
			code = list[g.Below(len(list))].Code
		}
		list = append(list, api.Pair{ID: id, Code: code})
	}
	return list
}

// queries are codes that pairs have, near ones, far ones, one of them twice.
func queries(g *sample.Source, w int, pairs []api.Pair) []string {
	have := pairs[g.Below(len(pairs))].Code
	far := []byte(have)
	for i := range far {
		far[i] ^= 0xff
	}
	return []string{have, flipped(have, g.Below(w), g.Below(w)), string(far), g.Text(w / 8), have, strings.Repeat("\x00", w/8)}
}
