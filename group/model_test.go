package group_test

import (
	"cmp"
	"fmt"
	"slices"
	"strings"
	"testing"

	"kindred/api"
	"kindred/disk"
	"kindred/engine"
	"kindred/internal/sample"
)

// apart is the distance of two codes, bit by bit.
func apart(a, b string) int {
	d := 0
	for i := range 8 * len(a) {
		if a[i/8]>>(i%8)&1 != b[i/8]>>(i%8)&1 {
			d++
		}
	}
	return d
}

// betweenModel are all pairs of pairs that are near, by a look at each two.
func betweenModel(a, b []api.Pair, r int) []api.Near {
	var list []api.Near
	for _, x := range a {
		for _, y := range b {
			if d := apart(x.Code, y.Code); d <= r {
				list = append(list, api.Near{Dist: d, A: x.ID, B: y.ID})
			}
		}
	}
	return inOrder(list)
}

// nearModel are those of one list whose first id is the lesser.
func nearModel(list []api.Pair, r int) []api.Near {
	return slices.DeleteFunc(betweenModel(list, list, r), func(n api.Near) bool { return n.A >= n.B })
}

func inOrder(list []api.Near) []api.Near {
	slices.SortFunc(list, func(x, y api.Near) int {
		return cmp.Or(cmp.Compare(x.Dist, y.Dist), cmp.Compare(x.A, y.A), cmp.Compare(x.B, y.B))
	})
	return list
}

// labels is a union in which every id has the name of its group: its least id.
type labels map[int]int

func labelsOf(ids []int) labels {
	l := labels{}
	for _, id := range ids {
		l[id] = id
	}
	return l
}

func (l labels) join(a, b int) {
	to, from := min(l[a], l[b]), max(l[a], l[b])
	for id, is := range l {
		if is == from {
			l[id] = to
		}
	}
}

func (l labels) groups(least int) []api.Group {
	by := map[int][]int{}
	for id, is := range l {
		by[is] = append(by[is], id)
	}
	var list []api.Group
	for _, ids := range by {
		if len(ids) >= least {
			slices.Sort(ids)
			list = append(list, api.Group{IDs: ids})
		}
	}
	slices.SortFunc(list, func(x, y api.Group) int { return cmp.Compare(x.IDs[0], y.IDs[0]) })
	return list
}

// reached are the groups of pairs between which there is a chain: from each pair on, as far as steps of at most r go.
func reached(list []api.Pair, r, least int) []api.Group {
	l := labelsOf(idsOf(list))
	for from := range list {
		seen := map[int]bool{from: true}
		for wave := []int{from}; len(wave) > 0; {
			at := wave[0]
			wave = wave[1:]
			for next := range list {
				if !seen[next] && apart(list[at].Code, list[next].Code) <= r {
					seen[next] = true
					wave = append(wave, next)
				}
			}
		}
		for next := range seen {
			l[list[from].ID] = min(l[list[from].ID], list[next].ID)
		}
	}
	return l.groups(least)
}

// modelled is what two lists must answer for a radius.
type modelled struct {
	r                         int
	near, there, back, itself []api.Near
	groups                    map[int][]api.Group // by the least size
}

func modelOf(list, others []api.Pair, r int) modelled {
	m := modelled{r: r, near: nearModel(list, r), there: betweenModel(list, others, r), back: betweenModel(others, list, r), itself: betweenModel(list, list, r), groups: map[int][]api.Group{}}
	for _, least := range []int{1, 2, 3, len(list), 1 << 20} {
		m.groups[least] = reached(list, r, least)
	}
	return m
}

func idsOf(list []api.Pair) []int {
	var ids []int
	for _, p := range list {
		ids = append(ids, p.ID)
	}
	return ids
}

func sameGroups(a, b []api.Group) bool {
	return slices.EqualFunc(a, b, func(x, y api.Group) bool { return slices.Equal(x.IDs, y.IDs) })
}

// short is a list, not too much of it.
func short(list []api.Near) string {
	if len(list) > 50 {
		return fmt.Sprint(len(list), " with ", list[:50])
	}
	return fmt.Sprint(list)
}

// z is a code of 64 bits, its last byte this one.
func z(last byte) string { return strings.Repeat("\x00", 7) + string([]byte{last}) }

// flipped is a code with these bits changed.
func flipped(code string, places ...int) string {
	b := []byte(code)
	for _, i := range places {
		b[i/8] ^= 0x80 >> (i % 8)
	}
	return string(b)
}

// store is an engine with pairs, and its disk.
type store struct {
	t *testing.T
	d *disk.Disk
	e *engine.Engine
}

func storeOf(t *testing.T, o api.Opts, pairs ...api.Pair) *store {
	t.Helper()
	s := &store{t: t, d: disk.New(1 << 28)}
	e, f := engine.Create(s.d, o)
	if f != api.OK {
		t.Fatalf("17.1: Create(%v): %d", o, f)
	}
	s.e = e
	s.insert(pairs...)
	return s
}

func (s *store) insert(pairs ...api.Pair) {
	s.t.Helper()
	for _, p := range pairs {
		if f := s.e.Insert(p.ID, p.Code); f != api.OK {
			s.t.Fatalf("17.4: Insert(%d): %d", p.ID, f)
		}
	}
}

func (s *store) delete(ids ...int) {
	s.t.Helper()
	for _, id := range ids {
		if f := s.e.Delete(id); f != api.OK {
			s.t.Fatalf("17.4: Delete(%d): %d", id, f)
		}
	}
}

// steps are so many steps of compaction, as far as there is something to do.
func (s *store) steps(most int) {
	s.t.Helper()
	for range most {
		done, f := s.e.CompactStep()
		if f != api.OK {
			s.t.Fatalf("17.4: CompactStep: %d", f)
		}
		if done {
			return
		}
	}
}

func (s *store) reopen() {
	s.t.Helper()
	s.e.Close()
	e, f := engine.Open(s.d)
	if f != api.OK {
		s.t.Fatalf("17.1: Open: %d", f)
	}
	s.e = e
}

// seen is all that a disk tells of itself.
func (s *store) seen() string {
	var b strings.Builder
	fmt.Fprintln(&b, s.d.Down(), s.d.Used(), s.d.Writes(), s.d.Age(), s.d.Image())
	for _, name := range s.d.Names() {
		n, _ := s.d.Size(name)
		x, _ := s.d.Read(name, 0, n)
		fmt.Fprintln(&b, name, x)
	}
	return b.String()
}

// optsOf are modes for codes of this width: the fewest chunks, the most, an uneven number, none.
func optsOf(w int) []api.Opts {
	return []api.Opts{{Width: w, Chunks: (w + 31) / 32, Mode: api.Chunked}, {Width: w, Chunks: w / 8, Mode: api.Chunked}, {Width: w, Chunks: w/16 - 1, Mode: api.Chunked}, {Width: w, Mode: api.Treed}}
}

// layouts are stores with the same pairs that have come to them in other ways.
func layouts(t *testing.T, o api.Opts, pairs []api.Pair) map[string]*store {
	t.Helper()
	half := len(pairs) / 2
	back := slices.Clone(pairs)
	slices.Reverse(back)
	all := map[string]*store{"as they came": storeOf(t, o, pairs...), "the last first": storeOf(t, o, back...)}
	s := storeOf(t, o, pairs[:half]...)
	s.steps(1)
	s.insert(pairs[half:]...)
	all["half of them flushed"] = s
	s = storeOf(t, o, api.Pair{ID: 1 << 47, Code: strings.Repeat("\x00", o.Width/8)})
	for _, p := range pairs {
		s.insert(api.Pair{ID: p.ID, Code: flipped(p.Code, 0, 9, 20)})
	}
	s.steps(1)
	s.delete(idsOf(pairs)...)
	s.insert(pairs...)
	s.steps(3)
	s.delete(1 << 47)
	all["compaction under way, others deleted"] = s
	s = storeOf(t, o, pairs...)
	s.steps(1)
	if len(pairs) > 0 {
		s.delete(pairs[0].ID)
		s.insert(pairs[0])
	}
	s.steps(1 << 20)
	all["compacted"] = s
	s = storeOf(t, o, pairs[:half]...)
	s.steps(1)
	s.insert(pairs[half:]...)
	s.reopen()
	all["opened again"] = s
	return all
}

// made are made-up pairs that are near to one another or not, ids in no order, some with the same code.
func made(g *sample.Source, w, n int) []api.Pair {
	centres := []string{g.Text(w / 8), g.Text(w / 8), strings.Repeat("\xff", w/8)}
	ids := map[int]bool{}
	var list []api.Pair
	for len(list) < n {
		id := []int{g.Below(3 * n), g.Below(1 << 48), 1<<48 - g.Below(n)}[g.Below(3)]
		if ids[id] {
			continue
		}
		ids[id] = true
		code := centres[g.Below(3)]
		for range g.Below(5) {
			code = flipped(code, g.Below(w))
		}
		if g.Below(4) == 0 && len(list) > 0 {
			code = flipped(list[g.Below(len(list))].Code, g.Below(w))
		}
		list = append(list, api.Pair{ID: id, Code: code})
	}
	return list
}
