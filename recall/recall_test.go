package recall_test

import (
	"fmt"
	"math"
	"slices"
	"strings"
	"testing"

	"kindred/api"
	"kindred/engine"
	"kindred/internal/sample"
	"kindred/recall"
)

func checkOf(t *testing.T, where string, found, wanted []api.Hit, want api.Share) {
	t.Helper()
	if got := recall.Of(found, wanted); got != want {
		t.Fatalf("24.1: %s: Of(%v, %v) = %v, want %v", where, idsOf(found), idsOf(wanted), got, want)
	}
}

func checkCurve(t *testing.T, where string, e *engine.Engine, qs []string, k int, want []api.Share, refusal api.Errno) {
	t.Helper()
	if got, f := recall.Curve(e, qs, k); f != refusal || !slices.Equal(got, want) {
		t.Fatalf("24.3: %s: Curve(%.300x, %d) = %v, %d, want %v, %d", where, qs, k, got, f, want, refusal)
	}
}

func checkLeast(t *testing.T, where string, e *engine.Engine, q string, k, want int, refusal api.Errno) {
	t.Helper()
	if got, f := recall.Least(e, q, k); f != refusal || got != want {
		t.Fatalf("24.4: %s: Least(%x, %d) = %d, %d, want %d, %d", where, q, k, got, f, want, refusal)
	}
}

// hits have these ids.
func hits(ids ...int) []api.Hit {
	var list []api.Hit
	for _, id := range ids {
		list = append(list, api.Hit{ID: id})
	}
	return list
}

func idsOf(list []api.Hit) []int {
	var ids []int
	for _, h := range list {
		ids = append(ids, h.ID)
	}
	return ids
}

// three are the pairs of the chapter's examples.
func three() []api.Pair {
	return []api.Pair{{ID: 1, Code: z(0)}, {ID: 2, Code: z(0xff)}, {ID: 3, Code: strings.Repeat("\xff", 8)}}
}

func TestExamples(t *testing.T) {
	for where, s := range layouts(t, api.Opts{Width: 64, Chunks: 8, Mode: api.Chunked}, three()) {
		for k, want := range []int{0, 1, 1, 9, 9} {
			checkLeast(t, where, s.e, z(0), k, want, api.OK)
		}
		rising := []api.Share{{Num: 0, Den: 3}}
		for range 8 {
			rising = append(rising, api.Share{Num: 2, Den: 3})
		}
		checkCurve(t, where, s.e, []string{z(0)}, 3, append(rising, api.Share{Num: 3, Den: 3}), api.OK)
		checkCurve(t, where, s.e, nil, 3, []api.Share{{}}, api.OK)
		checkCurve(t, where, s.e, []string{z(0)}, -1, nil, api.ErrK)
		checkCurve(t, where, s.e, []string{"x"}, 1, nil, api.ErrCode)
	}
	for where, s := range layouts(t, api.Opts{Width: 64, Mode: api.Treed}, three()) {
		checkLeast(t, where, s.e, z(0), 1, 0, api.ErrMode)
		checkCurve(t, where, s.e, []string{z(0)}, 1, nil, api.ErrMode)
		checkCurve(t, where, s.e, nil, 1, []api.Share{{}}, api.OK)
	}
}

func TestOf(t *testing.T) {
	checkOf(t, "none", nil, nil, api.Share{})
	checkOf(t, "none wanted", hits(1, 2), []api.Hit{}, api.Share{})
	checkOf(t, "none found", []api.Hit{}, hits(1, 2), api.Share{Den: 2})
	checkOf(t, "one of two", hits(1), hits(1, 2), api.Share{Num: 1, Den: 2})
	checkOf(t, "the second of two", hits(2), hits(1, 2), api.Share{Num: 1, Den: 2})
	checkOf(t, "more than wanted", hits(9, 1, 7), hits(1), api.Share{Num: 1, Den: 1})
	checkOf(t, "found twice", hits(1, 1), hits(1, 2), api.Share{Num: 1, Den: 2})
	checkOf(t, "wanted twice", hits(1), hits(1, 1, 2), api.Share{Num: 2, Den: 3})
	checkOf(t, "both twice", hits(1, 1), hits(1, 1), api.Share{Num: 2, Den: 2})
	checkOf(t, "in no order", hits(5, 1, 3), hits(3, 8, 5, 2, 1), api.Share{Num: 3, Den: 5})
	checkOf(t, "the id 0", hits(0), hits(1), api.Share{Den: 1})
	checkOf(t, "no ids of pairs", hits(math.MinInt, -1, math.MaxInt), hits(-1, 1<<48+1, math.MaxInt, math.MinInt, 1), api.Share{Num: 3, Den: 5})
	checkOf(t, "unlike distances and codes", []api.Hit{{Dist: 5, ID: 1, Code: "a"}}, []api.Hit{{Dist: 4, ID: 1, Code: "b"}, {Dist: 5, ID: 2, Code: "a"}}, api.Share{Num: 1, Den: 2})
	checkOf(t, "no hits of a search", []api.Hit{{Dist: -7, ID: 1}, {Dist: math.MaxInt, ID: 2, Code: "x"}}, []api.Hit{{Dist: math.MinInt, ID: 2}, {ID: 1}}, api.Share{Num: 2, Den: 2})
}

// TestOfByTheModel: lists of all lengths, with ids twice, and one list as both.
func TestOfByTheModel(t *testing.T) {
	g := sample.From(24)
	list := func() []api.Hit {
		var list []api.Hit
		for range g.Below(40) {
			list = append(list, api.Hit{Dist: g.Below(64), ID: g.Below(50) - 5, Code: g.Text(1)})
		}
		return list
	}
	for range 2000 {
		a, b := list(), list()
		checkOf(t, "made up", a, b, ofModel(a, b))
		checkOf(t, "made up, the other way round", b, a, ofModel(b, a))
		checkOf(t, "one list", a, a, api.Share{Num: len(a), Den: len(a)})
	}
}

// conditions are engines of all conditions, with what they refuse.
func conditions(t *testing.T, o api.Opts) map[string]struct {
	e *engine.Engine
	f api.Errno
} {
	closed, off, crashed, both := storeOf(t, o, three()...), storeOf(t, o, three()...), storeOf(t, o, three()...), storeOf(t, o, three()...)
	closed.e.Close()
	off.d.Arm(1, false)
	off.e.Sync()
	crashed.d.Crash(nil)
	both.d.Crash(nil)
	both.e.Close()
	type row = struct {
		e *engine.Engine
		f api.Errno
	}
	return map[string]row{
		"none": {nil, api.ErrClosed}, "unmade": {&engine.Engine{}, api.ErrClosed}, "closed": {closed.e, api.ErrClosed},
		"without power": {off.e, api.ErrDown}, "given up": {crashed.e, api.ErrDown}, "given up and closed": {both.e, api.ErrClosed},
		"empty": {storeOf(t, o).e, api.OK}, "at work": {storeOf(t, o, three()...).e, api.OK},
	}
}

// refusalOf is the first reason: the truth of each code is asked for ahead of what any shells find.
func refusalOf(condition api.Errno, o api.Opts, qs []string, k int) api.Errno {
	switch {
	case len(qs) == 0:
		return api.OK
	case condition != api.OK:
		return condition
	case len(qs[0]) != o.Width/8:
		return api.ErrCode
	case k < 0 || k > 4096:
		return api.ErrK
	case slices.ContainsFunc(qs, func(q string) bool { return len(q) != o.Width/8 }):
		return api.ErrCode
	case o.Mode == api.Treed:
		return api.ErrMode
	}
	return api.OK
}

// TestRefusals: whatever is wrong at one time, the first reason in the chapter's order is told, with nothing beside it; without codes nothing is asked.
func TestRefusals(t *testing.T) {
	wrong := []string{"", "x", strings.Repeat("a", 7), strings.Repeat("a", 9), strings.Repeat("a", 16)}
	lists := [][]string{nil, {}, {z(0)}, {z(0), z(1), z(0)}}
	for _, q := range wrong {
		lists = append(lists, []string{q}, []string{q, z(0)}, []string{z(0), q}, []string{z(0), z(1), q, z(2)})
	}
	for _, o := range []api.Opts{{Width: 64, Chunks: 4, Mode: api.Chunked}, {Width: 64, Mode: api.Treed}} {
		for name, c := range conditions(t, o) {
			m := model{m: o.Chunks}
			if name == "at work" {
				m.pairs = three()
			}
			for _, k := range []int{math.MinInt, -1, 0, 1, 3, 4096, 4097, math.MaxInt} {
				where := fmt.Sprintf("%s, mode %d", name, o.Mode)
				for _, qs := range lists {
					refusal := refusalOf(c.f, o, qs, k)
					var want []api.Share
					if refusal == api.OK {
						want = m.curve(qs, k)
					}
					checkCurve(t, where, c.e, qs, k, want, refusal)
				}
				for _, q := range append(slices.Clone(wrong), z(0), z(9)) {
					refusal, want := refusalOf(c.f, o, []string{q}, k), 0
					if refusal == api.OK {
						want = len(m.curve([]string{q}, k)) - 1
					}
					checkLeast(t, where, c.e, q, k, want, refusal)
				}
			}
		}
	}
}

// TestByTheModel: made-up pairs, cut into chunks in all ways, in all layouts.
func TestByTheModel(t *testing.T) {
	for i, w := range []int{64, 64, 64, 128, 192, 1024} {
		g := sample.From(i)
		list := made(g, w, 8+g.Below(16))
		qs := queries(g, w, list)
		for _, chunks := range chunkings(w) {
			m := model{m: chunks, pairs: list}
			stores := layouts(t, api.Opts{Width: w, Chunks: chunks, Mode: api.Chunked}, list)
			for _, k := range []int{0, 1, 5, len(list), 4096} {
				curve, rest := m.curve(qs, k), m.curve(qs[1:3], k)
				for where, s := range stores {
					checkCurve(t, where, s.e, qs, k, curve, api.OK)
					checkCurve(t, where, s.e, qs[1:3], k, rest, api.OK)
				}
				for _, q := range qs {
					one := m.curve([]string{q}, k)
					for where, s := range stores {
						checkCurve(t, where, s.e, []string{q}, k, one, api.OK)
						checkLeast(t, where, s.e, q, k, len(one)-1, api.OK)
					}
				}
			}
		}
	}
}

// TestItGrows: what more shells find is never worse, and what TopK's shells find is all.
func TestItGrows(t *testing.T) {
	for i, w := range []int{64, 128, 256} {
		g := sample.From(100 + i)
		list := made(g, w, 60)
		for _, chunks := range chunkings(w) {
			e := storeOf(t, api.Opts{Width: w, Chunks: chunks, Mode: api.Chunked}, list...).e
			for _, k := range []int{1, 4, 20, 60, 61} {
				qs := queries(g, w, list)
				most := 0
				for _, q := range qs {
					most = max(most, shellsOf(t, e, q, k))
					checkNearer(t, e, q, k)
				}
				checkRising(t, e, qs, k, most)
			}
		}
	}
}

// shellsOf is how many shells TopK has gone through; fewer may be enough, more are not needed.
func shellsOf(t *testing.T, e *engine.Engine, q string, k int) int {
	t.Helper()
	truth, stats, _ := e.TopK(q, k)
	least, f := recall.Least(e, q, k)
	if f != api.OK || least > stats.Shells {
		t.Fatalf("24.6: Least(%x, %d) = %d, %d, and TopK goes through %d shells", q, k, least, f, stats.Shells)
	}
	for shells := range stats.Shells + 3 {
		found, _, _ := e.Few(q, k, shells)
		share := recall.Of(found, truth)
		if share.Den != len(truth) || (share.Num == share.Den) != (shells >= least) {
			t.Fatalf("24.4: Least(%x, %d) = %d, and %d shells find %v", q, k, least, shells, share)
		}
	}
	return stats.Shells
}

// checkNearer: the i-th hit of more shells is never farther, and there are never fewer.
func checkNearer(t *testing.T, e *engine.Engine, q string, k int) {
	t.Helper()
	was, _, _ := e.Few(q, k, 0)
	for shells := 1; shells < 40; shells++ {
		now, _, f := e.Few(q, k, shells)
		if f != api.OK || len(now) < len(was) {
			t.Fatalf("24.5: Few(%x, %d, %d): %d hits, %d; fewer shells find %d", q, k, shells, len(now), f, len(was))
		}
		for i := range was {
			if now[i].Dist > was[i].Dist {
				t.Fatalf("24.5: Few(%x, %d, %d): hit %d is at %d; with fewer shells at %d", q, k, shells, i, now[i].Dist, was[i].Dist)
			}
		}
		was = now
	}
}

// checkRising: a curve ends with its first whole share, behind the most shells that TopK needs at the latest.
func checkRising(t *testing.T, e *engine.Engine, qs []string, k, most int) {
	t.Helper()
	list, f := recall.Curve(e, qs, k)
	if f != api.OK || len(list) < 1 || len(list) > most+1 {
		t.Fatalf("24.6: Curve(%x, %d): %d shares, %d, and TopK goes through %d shells at most", qs, k, len(list), f, most)
	}
	for i, share := range list {
		if share.Den != list[0].Den || i > 0 && share.Num < list[i-1].Num {
			t.Fatalf("24.5: Curve(%x, %d): %v does not rise", qs, k, list)
		}
		if (share.Num == share.Den) != (i == len(list)-1) {
			t.Fatalf("24.3: Curve(%x, %d): %v does not end with its first whole share", qs, k, list)
		}
	}
}

// TestFarthest: a pair that differs in every bit is found behind the last shell of the shortest chunk, and in no earlier one.
func TestFarthest(t *testing.T) {
	for _, c := range []struct{ w, m, least int }{{64, 2, 33}, {64, 3, 22}, {64, 5, 13}, {64, 8, 9}, {192, 7, 28}, {1024, 32, 33}, {1024, 100, 11}, {1024, 128, 9}} {
		q, far := strings.Repeat("\x35", c.w/8), strings.Repeat("\xca", c.w/8)
		s := storeOf(t, api.Opts{Width: c.w, Chunks: c.m, Mode: api.Chunked}, api.Pair{ID: 1 << 48, Code: far})
		where := fmt.Sprintf("%d bits in %d chunks", c.w, c.m)
		checkLeast(t, where, s.e, q, 1, c.least, api.OK)
		checkLeast(t, where, s.e, far, 1, 1, api.OK)
		var want []api.Share
		for range c.least {
			want = append(want, api.Share{Den: 1})
		}
		checkCurve(t, where, s.e, []string{q}, 4096, append(want, api.Share{Num: 1, Den: 1}), api.OK)
		// One code that is found early makes no share whole, wherever it stands.
		for i := range want {
			want[i] = api.Share{Num: min(i, 1), Den: 2}
		}
		want = append(want, api.Share{Num: 2, Den: 2})
		checkCurve(t, where, s.e, []string{q, far}, 1, want, api.OK)
		checkCurve(t, where, s.e, []string{far, q}, 1, want, api.OK)
	}
}

// TestNoPairs: where nothing is to be found, no shell is needed.
func TestNoPairs(t *testing.T) {
	for _, w := range []int{64, 1024} {
		s := storeOf(t, api.Opts{Width: w, Chunks: w / 16, Mode: api.Chunked})
		q := strings.Repeat("q", w/8)
		for _, k := range []int{0, 1, 4096} {
			checkLeast(t, "no pairs", s.e, q, k, 0, api.OK)
			checkCurve(t, "no pairs", s.e, []string{q, q}, k, []api.Share{{}}, api.OK)
		}
		p := api.Pair{ID: 0, Code: q}
		s.insert(p)
		checkLeast(t, "one pair", s.e, q, 1, 1, api.OK)
		checkCurve(t, "one pair", s.e, []string{q, q}, 9, []api.Share{{Num: 0, Den: 2}, {Num: 2, Den: 2}}, api.OK)
		s.delete(p)
		checkLeast(t, "one that was taken away", s.e, q, 1, 0, api.OK)
	}
}

// TestManyPairs: more pairs than may be asked for, most of them with the first shell's values.
func TestManyPairs(t *testing.T) {
	var list []api.Pair
	for i := range 4200 {
		list = append(list, api.Pair{ID: i, Code: strings.Repeat("\x00", 6) + string([]byte{byte(i >> 8), byte(i)})})
	}
	s := storeOf(t, api.Opts{Width: 64, Chunks: 4, Mode: api.Chunked}, list...)
	checkLeast(t, "the first values", s.e, z(0), 4096, 1, api.OK)
	checkCurve(t, "the first values", s.e, []string{z(0)}, 4096, []api.Share{{Den: 4096}, {Num: 4096, Den: 4096}}, api.OK)
	checkLeast(t, "one too many", s.e, z(0), 4097, 0, api.ErrK)
	m, q := model{m: 4, pairs: list}, strings.Repeat("\x0f", 8)
	checkCurve(t, "far from all", s.e, []string{q}, 4096, m.curve([]string{q}, 4096), api.OK)
}

// TestNothingIsWritten: no call changes a byte, a name or a number, refused or not.
func TestNothingIsWritten(t *testing.T) {
	for _, o := range []api.Opts{{Width: 64, Chunks: 3, Mode: api.Chunked}, {Width: 64, Mode: api.Treed}} {
		for where, s := range layouts(t, o, three()) {
			was := s.seen()
			for range 2 {
				for _, k := range []int{-1, 0, 1, 3, 4097} {
					recall.Curve(s.e, []string{z(0), z(7)}, k)
					recall.Curve(s.e, []string{z(0), "x"}, k)
					recall.Curve(s.e, nil, k)
					recall.Least(s.e, z(3), k)
					recall.Least(s.e, "x", k)
				}
			}
			if s.seen() != was {
				t.Errorf("R2: %s, mode %d: a question has changed something", where, o.Mode)
			}
		}
	}
}

// TestLists: what is handed in is not changed, its spare room neither; what is answered is new.
func TestLists(t *testing.T) {
	e := storeOf(t, api.Opts{Width: 64, Chunks: 8, Mode: api.Chunked}, three()...).e
	room := []string{z(0), z(1), "spare", "room"}
	qs, was := room[:2], slices.Clone(room)
	first, _ := recall.Curve(e, qs, 3)
	want := slices.Clone(first)
	for i := range first[:cap(first)] {
		first[:cap(first)][i] = api.Share{Num: -1, Den: -1}
	}
	checkCurve(t, "again", e, qs, 3, want, api.OK)
	if !slices.Equal(room, was) {
		t.Errorf("R4: the codes were changed: %q", room)
	}
	// The order of the codes is not seen in the sums.
	checkCurve(t, "turned round", e, []string{z(1), z(0)}, 3, want, api.OK)
	found, wanted := append(hits(3, 1, 2), hits(8, 9)...), append(hits(2, 7, 3), hits(1, 8)...)
	a, b := slices.Clone(found), slices.Clone(wanted)
	checkOf(t, "with spare room", found[:3], wanted[:3], api.Share{Num: 2, Den: 3})
	if !slices.Equal(found, a) || !slices.Equal(wanted, b) {
		t.Errorf("R4: lists of hits were changed: %v and %v", found, wanted)
	}
}
