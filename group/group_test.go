package group_test

import (
	"fmt"
	"math"
	"slices"
	"strings"
	"testing"

	"kindred/api"
	"kindred/disk"
	"kindred/engine"
	"kindred/group"
	"kindred/internal/sample"
)

// five are the pairs of the chapter's examples.
func five() []api.Pair {
	return []api.Pair{{ID: 9, Code: z(0)}, {ID: 2, Code: z(1)}, {ID: 1, Code: z(0)}, {ID: 4, Code: z(0xff)}, {ID: 3, Code: z(3)}}
}

func checkFind(t *testing.T, where string, e *engine.Engine, r, least int, want []api.Group, refusal api.Errno) {
	t.Helper()
	if got, f := group.Find(e, r, least); f != refusal || !sameGroups(got, want) {
		t.Errorf("20.2: %s: Find(%d, %d) = %v, %d, want %v, %d", where, r, least, got, f, want, refusal)
	}
}

func checkNear(t *testing.T, where string, e *engine.Engine, r int, want []api.Near, refusal api.Errno) {
	t.Helper()
	if got, f := group.Near(e, r); f != refusal || !slices.Equal(got, want) {
		t.Errorf("20.3: %s: Near(%d) = %s, %d, want %s, %d", where, r, short(got), f, short(want), refusal)
	}
}

func checkBetween(t *testing.T, where string, a, b *engine.Engine, r int, want []api.Near, refusal api.Errno) {
	t.Helper()
	if got, f := group.Between(a, b, r); f != refusal || !slices.Equal(got, want) {
		t.Errorf("20.4: %s: Between(%d) = %s, %d, want %s, %d", where, r, short(got), f, short(want), refusal)
	}
}

func TestExamples(t *testing.T) {
	for _, o := range optsOf(64) {
		for where, s := range layouts(t, o, five()) {
			e := s.e
			checkFind(t, where, e, 0, 1, of([]int{1, 9}, []int{2}, []int{3}, []int{4}), api.OK)
			checkFind(t, where, e, 0, 2, of([]int{1, 9}), api.OK)
			checkFind(t, where, e, 1, 1, of([]int{1, 2, 3, 9}, []int{4}), api.OK)
			checkFind(t, where, e, 64, 2, of([]int{1, 2, 3, 4, 9}), api.OK)
			checkFind(t, where, e, -1, 0, nil, api.ErrRadius)
			checkFind(t, where, e, 65, 0, nil, api.ErrRadius)
			checkFind(t, where, e, 1, 0, nil, api.ErrLeast)
			checkNear(t, where, e, 1, []api.Near{{Dist: 0, A: 1, B: 9}, {Dist: 1, A: 1, B: 2}, {Dist: 1, A: 2, B: 3}, {Dist: 1, A: 2, B: 9}}, api.OK)
			for _, p := range optsOf(64) {
				x := storeOf(t, p, api.Pair{ID: 7, Code: z(1)}).e
				checkBetween(t, where, e, x, 0, []api.Near{{Dist: 0, A: 2, B: 7}}, api.OK)
				checkBetween(t, where, e, x, 1, []api.Near{{Dist: 0, A: 2, B: 7}, {Dist: 1, A: 1, B: 7}, {Dist: 1, A: 3, B: 7}, {Dist: 1, A: 9, B: 7}}, api.OK)
			}
			checkBetween(t, where, e, storeOf(t, api.Opts{Width: 128, Mode: api.Treed}).e, 99, nil, api.ErrWidth)
			e.Close()
			checkFind(t, where, e, 1, 1, nil, api.ErrClosed)
		}
	}
	checkFind(t, "no engine", nil, -1, 0, nil, api.ErrEmpty)
}

// conditions are engines of this width and of all conditions, with what they refuse.
func conditions(t *testing.T, o api.Opts) map[string]struct {
	e *engine.Engine
	f api.Errno
} {
	pair := api.Pair{ID: 1, Code: strings.Repeat("a", o.Width/8)}
	closed, off, crashed, both, full := storeOf(t, o, pair), storeOf(t, o, pair), storeOf(t, o, pair), storeOf(t, o, pair), storeOf(t, o, pair)
	closed.e.Close()
	off.d.Arm(1, false)
	off.e.Sync()
	crashed.d.Crash(nil)
	both.d.Crash(nil)
	both.e.Close()
	type row = struct {
		e *engine.Engine
		f api.Errno
	}
	return map[string]row{
		"none": {nil, api.ErrEmpty}, "unmade": {&engine.Engine{}, api.ErrClosed}, "closed": {closed.e, api.ErrClosed},
		"without power": {off.e, api.ErrDown}, "given up": {crashed.e, api.ErrDown}, "given up and closed": {both.e, api.ErrClosed},
		"empty": {storeOf(t, o).e, api.OK}, "at work": {full.e, api.OK},
	}
}

// TestRefusals: whatever is wrong at one time, the first reason in the chapter's order is told, with nothing beside it.
func TestRefusals(t *testing.T) {
	for _, o := range []api.Opts{{Width: 64, Chunks: 4, Mode: api.Chunked}, {Width: 128, Mode: api.Treed}} {
		for name, c := range conditions(t, o) {
			for _, r := range []int{math.MinInt, -1, 0, o.Width, o.Width + 1, math.MaxInt} {
				want := c.f
				if want == api.OK && (r < 0 || r > o.Width) {
					want = api.ErrRadius
				}
				checkNear(t, name, c.e, r, nil, want)
				for _, least := range []int{math.MinInt, -1, 0, 2, 1 << 20, 1<<20 + 1, math.MaxInt} {
					first := want
					if first == api.OK && (least < 1 || least > 1<<20) {
						first = api.ErrLeast
					}
					checkFind(t, name, c.e, r, least, nil, first)
				}
			}
		}
	}
}

func TestRefusalsOfTwo(t *testing.T) {
	narrow, wide := api.Opts{Width: 64, Chunks: 4, Mode: api.Chunked}, api.Opts{Width: 128, Mode: api.Treed}
	for _, o := range []api.Opts{narrow, wide} {
		for a, x := range conditions(t, narrow) {
			for b, y := range conditions(t, o) {
				for _, r := range []int{math.MinInt, -1, 0, 64, 65, 128, 129, math.MaxInt} {
					want := api.OK
					switch {
					case x.e == nil || y.e == nil:
						want = api.ErrEmpty
					case x.f != api.OK:
						want = x.f
					case y.f != api.OK:
						want = y.f
					case o != narrow:
						want = api.ErrWidth
					case r < 0 || r > 64:
						want = api.ErrRadius
					}
					var told []api.Near
					if want == api.OK && a == "at work" && b == "at work" {
						told = []api.Near{{A: 1, B: 1}}
					}
					checkBetween(t, a+" and "+b, x.e, y.e, r, told, want)
				}
			}
		}
	}
}

// TestByTheModel: made-up pairs, in all modes and layouts, with all radii that count.
func TestByTheModel(t *testing.T) {
	for i, w := range []int{64, 64, 128, 192, 1024} {
		g := sample.From(i)
		list, others := made(g, w, 12+g.Below(12)), made(g, w, 5)
		for k := range others {
			if k%2 == 0 {
				others[k].Code = flipped(list[k].Code, g.Below(w))
			}
		}
		// The models look at every bit of each two codes: they are asked once for all stores.
		var all []modelled
		for _, r := range []int{0, 1, 2, 3, 4, 7, w/2 - 4, w / 2, w - 1, w} {
			all = append(all, modelOf(list, others, r))
		}
		for _, o := range optsOf(w) {
			other := storeOf(t, optsOf(w)[g.Below(4)], others...).e
			for where, s := range layouts(t, o, list) {
				for _, m := range all {
					checkNear(t, where, s.e, m.r, m.near, api.OK)
					checkBetween(t, where, s.e, other, m.r, m.there, api.OK)
					checkBetween(t, where, other, s.e, m.r, m.back, api.OK)
					checkBetween(t, where, s.e, s.e, m.r, m.itself, api.OK)
					for least, groups := range m.groups {
						checkFind(t, where, s.e, m.r, least, groups, api.OK)
					}
				}
			}
		}
	}
}

// TestFewPairs: stores of none, one and two.
func TestFewPairs(t *testing.T) {
	for _, o := range optsOf(64) {
		s := storeOf(t, o)
		checkFind(t, "none", s.e, 64, 1, nil, api.OK)
		checkNear(t, "none", s.e, 64, nil, api.OK)
		checkBetween(t, "none", s.e, s.e, 64, nil, api.OK)
		s.insert(api.Pair{ID: 0, Code: z(0)})
		checkFind(t, "one", s.e, 0, 1, of([]int{0}), api.OK)
		checkFind(t, "one", s.e, 64, 2, nil, api.OK)
		checkNear(t, "one", s.e, 64, nil, api.OK)
		checkBetween(t, "one", s.e, s.e, 0, []api.Near{{}}, api.OK)
		checkBetween(t, "one and none", s.e, storeOf(t, o).e, 64, nil, api.OK)
		checkBetween(t, "none and one", storeOf(t, o).e, s.e, 64, nil, api.OK)
		s.insert(api.Pair{ID: 1 << 48, Code: strings.Repeat("\xff", 8)})
		checkFind(t, "two", s.e, 63, 1, of([]int{0}, []int{1 << 48}), api.OK)
		checkFind(t, "two", s.e, 64, 1, of([]int{0, 1 << 48}), api.OK)
		checkNear(t, "two", s.e, 63, nil, api.OK)
		checkNear(t, "two", s.e, 64, []api.Near{{Dist: 64, A: 0, B: 1 << 48}}, api.OK)
		checkBetween(t, "two", s.e, s.e, 64, []api.Near{{A: 0, B: 0}, {A: 1 << 48, B: 1 << 48}, {Dist: 64, A: 0, B: 1 << 48}, {Dist: 64, A: 1 << 48, B: 0}}, api.OK)
	}
}

// TestLongChain: pairs of which only the next ones are near, the ids in no order.
func TestLongChain(t *testing.T) {
	for _, o := range optsOf(128) {
		code := strings.Repeat("\x5a", 16)
		var list []api.Pair
		for i := range 129 {
			list = append(list, api.Pair{ID: i * 77 % 129, Code: code})
			if i < 128 {
				code = flipped(code, i)
			}
		}
		s := storeOf(t, o, list...)
		all := slices.Sorted(slices.Values(idsOf(list)))
		checkFind(t, "a chain", s.e, 1, 129, of(all), api.OK)
		checkFind(t, "a chain", s.e, 1, 130, nil, api.OK)
		s.delete(list[50].ID)
		checkFind(t, "a broken chain", s.e, 1, 1, of(slices.Sorted(slices.Values(idsOf(list[:50]))), slices.Sorted(slices.Values(idsOf(list[51:])))), api.OK)
		checkFind(t, "a broken chain", s.e, 2, 1, reached(slices.Delete(slices.Clone(list), 50, 51), 2, 1), api.OK)
	}
}

// clusters are pairs of which so many have one code; unlike codes are far from one another.
func clusters(from int, sizes ...int) []api.Pair {
	var list []api.Pair
	for i, n := range sizes {
		code := strings.Repeat(string([]byte{0x00, 0xff, 0x0f, 0xf0, 0x33, 0xcc, 0x55}[i:i+1]), 8)
		for range n {
			list = append(list, api.Pair{ID: from + len(list), Code: code})
		}
	}
	return list
}

// TestMany: 65536 are told, one more is refused, whether it is found first or last.
func TestMany(t *testing.T) {
	for _, o := range []api.Opts{{Width: 64, Chunks: 2, Mode: api.Chunked}, {Width: 64, Mode: api.Treed}} {
		for _, sizes := range [][]int{{362, 20, 3, 2, 2}, {2, 2, 3, 20, 362}} { // 65341 + 190 + 3 + 1 + 1
			s := storeOf(t, o, clusters(0, sizes...)...)
			list, e := group.Near(s.e, 0)
			if e != api.OK || !slices.Equal(list, nearModel(clusters(0, sizes...), 0)) || len(list) != 1<<16 {
				t.Errorf("20.3: %v of one code: %d near ones, %d", sizes, len(list), e)
			}
			if list, e = group.Near(s.e, 31); e != api.OK || len(list) != 1<<16 {
				t.Errorf("20.3: %v of one code, within 31: %d near ones, %d", sizes, len(list), e)
			}
			checkNear(t, "more codes", s.e, 32, nil, api.ErrMany)
			checkNear(t, "all", s.e, 64, nil, api.ErrMany)
			s.insert(api.Pair{ID: 9000, Code: strings.Repeat("\x00", 7) + "\x01"})
			if list, e := group.Near(s.e, 0); e != api.OK || len(list) != 1<<16 {
				t.Errorf("20.3: %v of one code and one more: %d near ones, %d", sizes, len(list), e)
			}
			s.insert(api.Pair{ID: 9001, Code: strings.Repeat("\x00", 7) + "\x01"})
			checkNear(t, "one too many", s.e, 0, nil, api.ErrMany)
		}
		checkManyBetween(t, o)
	}
}

func checkManyBetween(t *testing.T, o api.Opts) {
	t.Helper()
	x, y := clusters(5, 256, 0, 1), clusters(900, 256, 1, 0)
	a, b := storeOf(t, o, x...), storeOf(t, o, y...)
	if list, e := group.Between(a.e, b.e, 0); e != api.OK || !slices.Equal(list, betweenModel(x, y, 0)) || len(list) != 1<<16 {
		t.Errorf("20.4: 256 by 256: %d near ones, %d", len(list), e)
	}
	b.insert(api.Pair{ID: 0, Code: x[256].Code})
	checkBetween(t, "one more", a.e, b.e, 0, nil, api.ErrMany)
	checkBetween(t, "one more", b.e, a.e, 0, nil, api.ErrMany)
	c := storeOf(t, o, clusters(0, 255)...)
	if list, e := group.Between(c.e, c.e, 0); e != api.OK || len(list) != 255*255 {
		t.Errorf("20.4: 255 with themselves: %d near ones, %d", len(list), e)
	}
	c.insert(api.Pair{ID: 300, Code: x[0].Code})
	if list, e := group.Between(c.e, c.e, 0); e != api.OK || len(list) != 1<<16 {
		t.Errorf("20.4: 256 with themselves: %d near ones, %d", len(list), e)
	}
	c.insert(api.Pair{ID: 301, Code: x[256].Code})
	checkBetween(t, "256 with themselves, and one", c.e, c.e, 0, nil, api.ErrMany)
}

// TestGreatStores: calls end where every pair is near to every other.
func TestGreatStores(t *testing.T) {
	for _, o := range []api.Opts{{Width: 64, Chunks: 8, Mode: api.Chunked}, {Width: 64, Mode: api.Treed}} {
		s := storeOf(t, o, clusters(0, 60000, 2)...)
		s.insert(api.Pair{ID: 70000, Code: z(1)}, api.Pair{ID: 70001, Code: z(3)})
		for _, r := range []int{0, 1, 64} {
			groups, e := group.Find(s.e, r, 2)
			want := map[int][]int{0: {60000, 2}, 1: {60002, 2}, 64: {60004}}[r]
			if got := sizes(groups); e != api.OK || !slices.Equal(got, want) {
				t.Errorf("20.2: Find(%d): groups of %v, %d, want %v", r, got, e, want)
			}
			checkNear(t, "many", s.e, r, nil, api.ErrMany)
			checkBetween(t, "many", s.e, s.e, r, nil, api.ErrMany)
		}
		one := storeOf(t, o, api.Pair{ID: 3, Code: z(1)})
		checkBetween(t, "many and one", s.e, one.e, 0, []api.Near{{A: 70000, B: 3}}, api.OK)
		checkBetween(t, "one and many", one.e, s.e, 0, []api.Near{{A: 3, B: 70000}}, api.OK)
	}
}

func sizes(groups []api.Group) []int {
	var list []int
	for _, g := range groups {
		list = append(list, len(g.IDs))
	}
	return list
}

// TestNothingIsWritten: not a byte, not a name, not a write, refused or not; and the engine tells what it told.
func TestNothingIsWritten(t *testing.T) {
	for _, o := range optsOf(64) {
		s := storeOf(t, o, five()...)
		s.steps(1)
		s.delete(2)
		x := storeOf(t, o, five()...)
		was, others, seq, synced := s.seen(), x.seen(), s.e.Seq(), s.e.Synced()
		for _, r := range []int{-1, 0, 1, 64, 65} {
			group.Find(s.e, r, 1)
			group.Find(s.e, r, 0)
			group.Near(s.e, r)
			group.Between(s.e, x.e, r)
			group.Between(x.e, s.e, r)
		}
		if s.seen() != was || x.seen() != others || s.e.Seq() != seq || s.e.Synced() != synced {
			t.Errorf("20, R2: %v: a question has written", o)
		}
	}
}

// TestAnswersAreNew: what is done to an answer is seen in no other.
func TestAnswersAreNew(t *testing.T) {
	s := storeOf(t, api.Opts{Width: 64, Mode: api.Treed}, five()...)
	for range 2 {
		groups, _ := group.Find(s.e, 1, 1)
		near, _ := group.Near(s.e, 64)
		between, _ := group.Between(s.e, s.e, 64)
		if !sameGroups(groups, reached(five(), 1, 1)) || !slices.Equal(near, nearModel(five(), 64)) || !slices.Equal(between, betweenModel(five(), five(), 64)) {
			t.Fatalf("R4: an answer is changed through another: %v, %v, %v", groups, near, between)
		}
		for i := range groups {
			full := groups[i].IDs[:cap(groups[i].IDs)]
			for j := range full {
				full[j] = i
			}
		}
		if slices.Contains(groups[0].IDs, 1) || slices.Contains(groups[1].IDs, 0) {
			t.Errorf("R4: two lists of an answer share memory: %v", groups)
		}
		clear(near[:cap(near)])
		clear(between[:cap(between)])
	}
}

// TestGroupsGrowTogether (20.5): every id stands in just one group; with r = 0 it is that of its code; with a greater r nothing parts.
func TestGroupsGrowTogether(t *testing.T) {
	for seed := range 8 {
		g := sample.From(100 + seed)
		list := made(g, 64, 30)
		s := storeOf(t, optsOf(64)[seed%4], list...)
		before := map[int]int{}
		codes := map[int]string{}
		for _, p := range list {
			codes[p.ID] = p.Code
		}
		for r := range 65 {
			now := membership(t, s.e, r, len(list))
			for a, in := range before {
				for b, other := range before {
					if in == other && now[a] != now[b] {
						t.Fatalf("20.5: seed %d: %d and %d part at %d", seed, a, b, r)
					}
				}
			}
			for a := range now {
				for b := range now {
					if r == 0 && (now[a] == now[b]) != (codes[a] == codes[b]) {
						t.Fatalf("20.5: seed %d: %d and %d in one group of one code: %v", seed, a, b, now[a] == now[b])
					}
				}
			}
			before = now
		}
	}
}

// membership is in which group each id stands.
func membership(t *testing.T, e *engine.Engine, r, n int) map[int]int {
	t.Helper()
	groups, f := group.Find(e, r, 1)
	if f != api.OK {
		t.Fatalf("20.2: Find(%d, 1): %d", r, f)
	}
	in := map[int]int{}
	for i, g := range groups {
		for _, id := range g.IDs {
			if _, there := in[id]; there {
				t.Fatalf("20.5: %d stands in two groups", id)
			}
			in[id] = i
		}
	}
	if len(in) != n {
		t.Fatalf("20.5: %d ids in groups, want %d", len(in), n)
	}
	return in
}

// TestJoinsInBothOrders (20.6): of an engine with itself Between tells Near's pairs either way round, and each pair with itself.
func TestJoinsInBothOrders(t *testing.T) {
	for seed := range 12 {
		g := sample.From(200 + seed)
		list := made(g, 128, 25)
		s := storeOf(t, optsOf(128)[seed%4], list...)
		for _, r := range []int{0, 1, 3, 6, 60, 128} {
			near, e := group.Near(s.e, r)
			both, f := group.Between(s.e, s.e, r)
			want := slices.Clone(near)
			for _, n := range near {
				want = append(want, api.Near{Dist: n.Dist, A: n.B, B: n.A})
			}
			for _, p := range list {
				want = append(want, api.Near{A: p.ID, B: p.ID})
			}
			if e != api.OK || f != api.OK || !slices.Equal(both, inOrder(want)) {
				t.Errorf("20.6: seed %d: Near(%d): %d, Between(%d): %d, and they do not go together", seed, r, e, r, f)
			}
		}
	}
}

// TestLayoutsAreNotSeen (20.6): neither mode nor files show, and what was deleted is gone.
func TestLayoutsAreNotSeen(t *testing.T) {
	g := sample.From(300)
	list := made(g, 64, 40)
	first := storeOf(t, optsOf(64)[0], list...)
	told := func(e *engine.Engine, r int) string {
		groups, f1 := group.Find(e, r, 1)
		near, f2 := group.Near(e, r)
		between, f3 := group.Between(first.e, e, r)
		return fmt.Sprint(groups, near, between, f1, f2, f3)
	}
	for _, o := range optsOf(64) {
		for where, s := range layouts(t, o, list) {
			for _, r := range []int{0, 2, 5, 32, 64} {
				if told(s.e, r) != told(first.e, r) {
					t.Errorf("20.6: %v, %s: answers for %d are not those of another layout", o, where, r)
				}
			}
		}
	}
}

// TestNearMakesGroups (20.7): joined in a union of all ids, Near's pairs make Find's groups.
func TestNearMakesGroups(t *testing.T) {
	for seed := range 12 {
		g := sample.From(400 + seed)
		list := made(g, 64, 40)
		s := storeOf(t, optsOf(64)[seed%4], list...)
		for _, r := range []int{0, 1, 2, 4, 24, 64} {
			near, f := group.Near(s.e, r)
			if f != api.OK {
				t.Fatalf("20.3: seed %d: Near(%d): %d", seed, r, f)
			}
			u := unionOf(t, idsOf(list)...)
			for _, n := range near {
				if f := u.Join(n.A, n.B); f != api.OK {
					t.Fatalf("20.7: seed %d: Join(%d, %d): %d", seed, n.A, n.B, f)
				}
			}
			for _, least := range []int{1, 2, 5} {
				checkFind(t, "20.7", s.e, r, least, u.Groups(least), api.OK)
			}
		}
	}
}

// TestBehindAPowerCut: an engine that was opened anew is asked for what has survived.
func TestBehindAPowerCut(t *testing.T) {
	d := disk.New(100000)
	e, _ := engine.Create(d, api.Opts{Width: 64, Chunks: 4, Mode: api.Chunked})
	e.Insert(1, z(0))
	e.Insert(2, z(1))
	e.Sync()
	e.Insert(3, z(3))
	checkFind(t, "ahead of it", e, 1, 1, of([]int{1, 2, 3}), api.OK)
	d.Crash(nil)
	checkFind(t, "behind it", e, 1, 1, nil, api.ErrDown)
	checkNear(t, "behind it", e, 1, nil, api.ErrDown)
	again, f := engine.Open(d)
	if f != api.OK {
		t.Fatalf("17.1: Open: %d", f)
	}
	checkFind(t, "opened anew", again, 1, 1, of([]int{1, 2}), api.OK)
	checkNear(t, "opened anew", again, 1, []api.Near{{Dist: 1, A: 1, B: 2}}, api.OK)
	checkBetween(t, "the old one and the new", again, e, 1, nil, api.ErrDown)
	checkBetween(t, "the old one and the new", e, again, 1, nil, api.ErrDown)
}
