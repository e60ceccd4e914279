package probe_test

import (
	"math"
	"slices"
	"strings"
	"testing"
	"time"
	"unsafe"

	"kindred/api"
	"kindred/internal/sample"
	"kindred/probe"
)

const (
	zero = "\x00\x00\x00\x00\x00\x00\x00\x00"
	ones = "\xff\xff\xff\xff\xff\xff\xff\xff"
	both = "\x00\x00\x01\x00\x00\x00\x00\x10" // one bit in each half
)

// low has its lowest i bits one.
func low(i int) string { return string([]byte{0, 0, 0, 0, 0, 0, 0, 1<<i - 1}) }

func pair(id int, code string) api.Pair { return api.Pair{ID: id, Code: code} }

func hit(dist, id int, code string) api.Hit { return api.Hit{Dist: dist, ID: id, Code: code} }

// of is a source of pairs that it must take.
func of(t *testing.T, w, m int, pairs ...api.Pair) probe.Source {
	t.Helper()
	s, e := probe.Of(w, m, pairs)
	if e != api.OK || s.Values == nil || s.At == nil {
		t.Fatalf("11.1: Of(%d, %d, ..) answers %d", w, m, e)
	}
	return s
}

// at is what a source of Of has at a value; it never refuses.
func at(t *testing.T, s probe.Source, j, value int) []api.Pair {
	t.Helper()
	list, e := s.At(j, value)
	if e != api.OK {
		t.Fatalf("11.1: At(%d, %d) answers %d", j, value, e)
	}
	return list
}

// answer is what a search answers.
type answer struct {
	hits  []api.Hit
	stats api.Stats
	e     api.Errno
}

func answered(hits []api.Hit, stats api.Stats, e api.Errno) answer { return answer{hits, stats, e} }

// same: an answer is what the chapter asks for.
func same(t *testing.T, what string, got, want answer) {
	t.Helper()
	if !slices.Equal(got.hits, want.hits) || got.stats != want.stats || got.e != want.e {
		t.Fatalf("%s is %s, want %s", what, told(got), told(want))
	}
}

// TestOfRefuses: in order, pair by pair.
func TestOfRefuses(t *testing.T) {
	good, wide := pair(3, zero), strings.Repeat("x", 128)
	for _, c := range []struct {
		w, m  int
		pairs []api.Pair
		e     api.Errno
	}{
		{0, 0, nil, api.ErrWidth}, {63, 2, nil, api.ErrWidth}, {-64, 2, []api.Pair{pair(-1, "")}, api.ErrWidth}, {96, 3, nil, api.ErrWidth},
		{1088, 40, nil, api.ErrWidth}, {math.MinInt, 2, nil, api.ErrWidth}, {math.MaxInt, math.MaxInt, nil, api.ErrWidth},
		{64, 0, []api.Pair{pair(-1, "")}, api.ErrChunks}, {64, 1, nil, api.ErrChunks}, {64, 9, nil, api.ErrChunks}, {64, -2, nil, api.ErrChunks},
		{64, math.MaxInt, nil, api.ErrChunks}, {1024, 31, nil, api.ErrChunks}, {1024, 129, nil, api.ErrChunks},
		{64, 2, []api.Pair{pair(-1, "")}, api.ErrID}, {64, 2, []api.Pair{pair(api.MaxID+1, "")}, api.ErrID},
		{64, 2, []api.Pair{pair(math.MinInt, zero)}, api.ErrID}, {64, 2, []api.Pair{good, pair(-1, zero), pair(4, "")}, api.ErrID},
		{64, 2, []api.Pair{pair(0, "")}, api.ErrCode}, {64, 2, []api.Pair{pair(0, zero[1:])}, api.ErrCode}, {64, 2, []api.Pair{pair(0, zero+"x")}, api.ErrCode},
		{128, 4, []api.Pair{pair(0, zero)}, api.ErrCode}, {64, 2, []api.Pair{good, pair(3, "")}, api.ErrCode}, {64, 2, []api.Pair{good, pair(4, ""), pair(-1, zero)}, api.ErrCode},
		{64, 2, []api.Pair{good, good}, api.ErrTwice}, {64, 2, []api.Pair{good, pair(3, ones)}, api.ErrTwice}, {64, 2, []api.Pair{good, pair(4, zero), pair(3, ones), pair(-1, "")}, api.ErrTwice},
		{64, 2, nil, api.OK}, {64, 8, []api.Pair{pair(0, zero), pair(api.MaxID, zero), good}, api.OK}, {1024, 32, []api.Pair{pair(0, wide)}, api.OK}, {1024, 128, []api.Pair{pair(0, wide)}, api.OK},
	} {
		s, e := probe.Of(c.w, c.m, c.pairs)
		if e != c.e {
			t.Errorf("11.1: Of(%d, %d, %s) answers %d, want %d", c.w, c.m, told(c.pairs), e, c.e)
		}
		if there := s.Values != nil && s.At != nil && s.Width == c.w && s.Chunks == c.m; there != (c.e == api.OK) {
			t.Errorf("11.1: Of(%d, %d, %s): a source: %v", c.w, c.m, told(c.pairs), there)
		}
		if e != api.OK && (s.Width != 0 || s.Chunks != 0 || s.Codes != 0 || s.Values != nil || s.At != nil) {
			t.Errorf("R3: Of(%d, %d, %s) answers a source beside %d", c.w, c.m, told(c.pairs), e)
		}
	}
}

// TestOfIsTrue: a source tells of its pairs what the chapter says, and nothing of what there is not.
func TestOfIsTrue(t *testing.T) {
	for seed, cut := range cuts() {
		for _, n := range []int{0, 1, 2, 60} {
			x := sample.From(100*seed + n)
			m, _ := sampled(x, cut[0], cut[1], n)
			s := of(t, m.w, m.m, m.pairs...)
			if s.Width != m.w || s.Chunks != m.m || s.Codes != codes(m.pairs) {
				t.Fatalf("11.1: a source of %d pairs has %d, %d, %d, want %d, %d, %d", n, s.Width, s.Chunks, s.Codes, m.w, m.m, codes(m.pairs))
			}
			for j := range m.m {
				values := m.values(j)
				if got := s.Values(j); !slices.Equal(got, values) {
					t.Fatalf("11.1: Values(%d) is %v, want %v", j, got, values)
				}
				for _, v := range append(values, 0, -1, math.MinInt, math.MaxInt, 1<<33, x.Below(256)) {
					if got := at(t, s, j, v); !slices.Equal(got, m.at(j, v)) {
						t.Fatalf("11.1: At(%d, %d) is %s, want %s", j, v, told(got), told(m.at(j, v)))
					}
				}
			}
			for _, j := range []int{-1, m.m, m.m + 1, math.MinInt, math.MaxInt} {
				if got, list := s.Values(j), at(t, s, j, 0); len(got) > 0 || len(list) > 0 {
					t.Fatalf("11.1: Values(%d) is %v, At(%d, 0) %s", j, got, j, told(list))
				}
			}
		}
	}
}

// TestOfKeepsNothing: neither the list of pairs nor its texts; what a source answers can be written over.
func TestOfKeepsNothing(t *testing.T) {
	text := []byte(both + both + low(3))
	code := unsafe.String(&text[0], len(text))
	room := []api.Pair{pair(5, code[:8]), pair(2, code[16:]), pair(1, code[8:16]), pair(-1, "behind the end")}
	was := slices.Clone(room)
	s := of(t, 64, 2, room[:3]...)
	if !slices.Equal(room, was) {
		t.Fatalf("11.1: Of has changed its pairs: %s", told(room))
	}
	for i := range room {
		room[i] = pair(99, zero)
	}
	for i := range text {
		text[i] = 'x'
	}
	for range 2 {
		values, first, second := s.Values(1), at(t, s, 0, 0x100), at(t, s, 1, 7)
		if !slices.Equal(values, []int{7, 16}) || !slices.Equal(first, []api.Pair{pair(1, both), pair(5, both)}) || !slices.Equal(second, []api.Pair{pair(2, low(3))}) {
			t.Fatalf("11.1: a source of pairs that were changed since tells %v, %s, %s", values, told(first), told(second))
		}
		for _, list := range [][]int{values, values[:cap(values)]} {
			for i := range list {
				list[i] = -1
			}
		}
		for _, list := range [][]api.Pair{first[:cap(first)], second[:cap(second)]} {
			for i := range list {
				list[i] = pair(-7, "spoilt")
			}
		}
	}
}

// TestExamples are the chapter's.
func TestExamples(t *testing.T) {
	none, flat := of(t, 64, 2), of(t, 64, 2, pair(1, zero), pair(2, low(1)), pair(3, low(3)))
	two, cluster := of(t, 64, 2, pair(1, both), pair(2, low(3))), of(t, 64, 2, pair(5, zero), pair(3, zero), pair(4, zero))
	first, second := api.Stats{Shells: 1, Steps: 2, Codes: 1, Pairs: 1}, api.Stats{Shells: 2, Steps: 6, Codes: 2, Pairs: 2}
	same(t, "11.2: TopK of nothing", answered(probe.TopK(none, zero, 5)), answer{})
	same(t, "11.3: Radius of nothing", answered(probe.Radius(none, zero, 64)), answer{})
	same(t, "11.2: TopK of k 0", answered(probe.TopK(flat, zero, 0)), answer{})
	all := api.Stats{Shells: 1, Steps: 2, Codes: 3, Pairs: 3}
	same(t, "11.2: TopK of k 1", answered(probe.TopK(flat, zero, 1)), answer{[]api.Hit{hit(0, 1, zero)}, all, api.OK})
	same(t, "11.2: a second shell", answered(probe.TopK(two, zero, 1)), answer{[]api.Hit{hit(2, 1, both)}, second, api.OK})
	same(t, "11.3: Radius 1", answered(probe.Radius(two, zero, 1)), answer{nil, first, api.OK})
	same(t, "11.3: Radius 2", answered(probe.Radius(two, zero, 2)), answer{[]api.Hit{hit(2, 1, both)}, second, api.OK})
	same(t, "11.3: Radius 0", answered(probe.Radius(two, zero, 0)), answer{nil, first, api.OK})
	same(t, "11.4: Few of no shells", answered(probe.Few(two, zero, 1, 0)), answer{})
	same(t, "11.4: Few of one shell", answered(probe.Few(two, zero, 1, 1)), answer{[]api.Hit{hit(3, 2, low(3))}, first, api.OK})
	same(t, "11.4: Few of nine", answered(probe.Few(two, zero, 1, 9)), answer{[]api.Hit{hit(2, 1, both)}, second, api.OK})
	three := api.Stats{Shells: 1, Steps: 2, Codes: 1, Pairs: 3}
	same(t, "11.2: a code of three pairs", answered(probe.TopK(cluster, zero, 2)), answer{[]api.Hit{hit(0, 3, zero), hit(0, 4, zero)}, three, api.OK})
	same(t, "11.2: a query of 7 bytes", answered(probe.TopK(two, zero[1:], 1)), answer{e: api.ErrCode})
	same(t, "11.2: k 4097", answered(probe.TopK(two, zero, 4097)), answer{e: api.ErrK})
	same(t, "11.3: r 65", answered(probe.Radius(two, zero, 65)), answer{e: api.ErrRadius})
	same(t, "11.4: shells -1", answered(probe.Few(two, zero, 1, -1)), answer{e: api.ErrRange})
	two.At = nil
	same(t, "11.2: a source without At", answered(probe.TopK(two, zero, 1)), answer{e: api.ErrRange})
}

// TestRefusals: every way in which something can be wrong, with every other one.
func TestRefusals(t *testing.T) {
	good := of(t, 128, 5, pair(1, zero+ones))
	type wrong struct {
		e  api.Errno
		do func(s *probe.Source, q *string, k, r, shells *int)
	}
	ways := []wrong{
		{api.ErrWidth, func(s *probe.Source, q *string, k, r, shells *int) { s.Width = 127 }},
		{api.ErrChunks, func(s *probe.Source, q *string, k, r, shells *int) { s.Chunks = 17 }},
		{api.ErrChunks, func(s *probe.Source, q *string, k, r, shells *int) { s.Chunks = 3 }},
		{api.ErrRange, func(s *probe.Source, q *string, k, r, shells *int) { s.Codes = -1 }},
		{api.ErrRange, func(s *probe.Source, q *string, k, r, shells *int) { s.Values = nil }},
		{api.ErrRange, func(s *probe.Source, q *string, k, r, shells *int) { s.At = nil }},
		{api.ErrCode, func(s *probe.Source, q *string, k, r, shells *int) { *q = zero }},
		{api.ErrCode, func(s *probe.Source, q *string, k, r, shells *int) { *q = "" }},
	}
	inK := append(slices.Clone(ways), wrong{api.ErrK, func(s *probe.Source, q *string, k, r, shells *int) { *k = -1 }}, wrong{api.ErrK, func(s *probe.Source, q *string, k, r, shells *int) { *k = api.MaxK + 1 }})
	inR := append(slices.Clone(ways), wrong{api.ErrRadius, func(s *probe.Source, q *string, k, r, shells *int) { *r = -1 }}, wrong{api.ErrRadius, func(s *probe.Source, q *string, k, r, shells *int) { *r = 129 }})
	inFew := append(slices.Clone(inK), wrong{api.ErrRange, func(s *probe.Source, q *string, k, r, shells *int) { *shells = -1 }}, wrong{api.ErrRange, func(s *probe.Source, q *string, k, r, shells *int) { *k, *shells = 0, math.MinInt }})
	for n := range 3 {
		list := [][]wrong{inK, inR, inFew}[n]
		for i, one := range list {
			for _, other := range list[i:] {
				s, q, k, r, shells := good, zero+zero, 5, 5, 5
				other.do(&s, &q, &k, &r, &shells)
				one.do(&s, &q, &k, &r, &shells)
				var got answer
				switch n {
				case 0:
					got = answered(probe.TopK(s, q, k))
				case 1:
					got = answered(probe.Radius(s, q, r))
				case 2:
					got = answered(probe.Few(s, q, k, shells))
				}
				same(t, "11.2 to 11.4: a refusal of "+[]string{"TopK", "Radius", "Few"}[n], got, answer{e: one.e})
			}
		}
	}
}

// TestBounds: numbers at the bounds, and far beyond them.
func TestBounds(t *testing.T) {
	s := of(t, 64, 2, pair(1, zero), pair(2, ones))
	for _, n := range []int{math.MinInt, -1 << 32, -1, 0, 1, 2, 33, 63, 64, 65, 4095, 4096, 4097, 1 << 32, 1<<62 + 1, math.MaxInt} {
		_, _, inK := probe.TopK(s, zero, n)
		_, _, inFew := probe.Few(s, zero, n, 1)
		if want := n >= 0 && n <= 4096; (inK == api.OK) != want || (inFew == api.OK) != want || !want && (inK != api.ErrK || inFew != api.ErrK) {
			t.Errorf("11.2, 11.4: with k %d TopK answers %d, Few %d", n, inK, inFew)
		}
		if _, _, e := probe.Radius(s, zero, n); (e == api.OK) != (n >= 0 && n <= 64) || e != api.OK && e != api.ErrRadius {
			t.Errorf("11.3: Radius of %d answers %d", n, e)
		}
		if _, x, e := probe.Few(s, zero, 9, n); (e == api.OK) != (n >= 0) || e != api.OK && e != api.ErrRange || e == api.OK && x.Shells != min(n, 33) {
			t.Errorf("11.4: Few of %d shells answers %d, and goes through %d", n, e, x.Shells)
		}
	}
}

// TestEdges: just enough shells, and one less; (a) wants more than m n, (b) all codes, (c) an end.
func TestEdges(t *testing.T) {
	// Chunks of 10, 9, 9 .. bits. Each has a code at a distance of i in every chunk: it is found in the shell i.
	every := func(i int) string {
		code := []byte(zero)
		for _, from := range []int{0, 10, 19, 28, 37, 46, 55} {
			for n := from; n < from+i; n++ {
				code[n/8] |= 0x80 >> (n % 8)
			}
		}
		return string(code)
	}
	s := of(t, 64, 7, pair(0, every(0)), pair(1, every(1)), pair(2, every(2)), pair(9, every(9)))
	for _, c := range []struct{ k, shells, hits int }{{1, 1, 1}, {2, 2, 2}, {3, 3, 3}, {4, 10, 4}, {5, 10, 4}, {4096, 10, 4}} {
		if l, x, _ := probe.TopK(s, zero, c.k); len(l) != c.hits || x.Shells != c.shells {
			t.Errorf("11.2: TopK of %d finds %d behind %d shells, want %d behind %d", c.k, len(l), x.Shells, c.hits, c.shells)
		}
	}
	for _, c := range []struct{ r, shells, hits int }{{0, 1, 1}, {6, 1, 1}, {7, 2, 2}, {13, 2, 2}, {14, 3, 3}, {20, 3, 3}, {21, 4, 3}, {62, 9, 3}, {63, 10, 4}, {64, 10, 4}} {
		if l, x, _ := probe.Radius(s, zero, c.r); len(l) != c.hits || x.Shells != c.shells {
			t.Errorf("11.3: Radius of %d finds %d behind %d shells, want %d behind %d", c.r, len(l), x.Shells, c.hits, c.shells)
		}
	}
	// Of codes that the source says it has, and has not, only the end of all chunks is the end: the first has a shell 10, the others none.
	asked := [7]int{}
	values := s.Values
	s.Values = func(j int) []int { asked[j]++; return values(j) }
	s.Codes = 99
	if l, x, e := probe.Few(s, zero, 9, math.MaxInt); len(l) != 4 || x.Shells != 11 || x.Codes != 4 || e != api.OK || asked != [7]int{11, 10, 10, 10, 10, 10, 10} {
		t.Errorf("11.2 (c): Few finds %d behind %d shells, asking for values %v times", len(l), x.Shells, asked)
	}
}

// TestNothingIsAsked: a search for none, one that refuses, and one of no shells ask for nothing.
func TestNothingIsAsked(t *testing.T) {
	asked := 0
	s := of(t, 64, 4, pair(1, zero))
	s.Values = func(j int) []int { asked++; return []int{0} }
	s.At = func(j, value int) ([]api.Pair, api.Errno) { asked++; return nil, api.ErrDown }
	same(t, "11.2: TopK of k 0", answered(probe.TopK(s, zero, 0)), answer{})
	same(t, "11.4: Few of k 0", answered(probe.Few(s, zero, 0, 5)), answer{})
	same(t, "11.4: Few of no shells", answered(probe.Few(s, zero, 5, 0)), answer{})
	same(t, "11.2: k -1", answered(probe.TopK(s, zero, -1)), answer{e: api.ErrK})
	same(t, "11.3: r 65", answered(probe.Radius(s, zero, 65)), answer{e: api.ErrRadius})
	s.Codes = 0
	same(t, "11.2: TopK of no codes", answered(probe.TopK(s, zero, 5)), answer{})
	same(t, "11.3: Radius of no codes", answered(probe.Radius(s, zero, 5)), answer{})
	same(t, "11.4: Few of no codes", answered(probe.Few(s, zero, 5, 5)), answer{})
	if asked > 0 {
		t.Errorf("11.7: a source was asked %d times for nothing", asked)
	}
}

// TestValuesOnceAShell: what a search with one shell more asks beside is what it asks in that shell.
func TestValuesOnceAShell(t *testing.T) {
	for seed, cut := range cuts() {
		m, q := sampled(sample.From(80000+seed), cut[0], cut[1], 25)
		l, before := m.of(q), map[int]int{}
		for n := range 35 {
			o := watched(t, l, seed)
			probe.Few(o.source(), q, 9, n)
			for j, times := range o.values {
				if times > before[j]+1 {
					t.Fatalf("11.7: %v: with %d shells Values(%d) is asked %d times, with one less %d times", cut, n, j, times, before[j])
				}
			}
			before = o.values
		}
	}
}

// holds: the three searches answer as the second writing does, of a watched source and of one of Of, and ask what they may.
func holds(t *testing.T, what string, l look, seed int, ks, rs, shells []int) {
	t.Helper()
	made := of(t, l.w, l.m, l.pairs...)
	try := func(call string, want answer, search func(s probe.Source) answer) {
		t.Helper()
		o := watched(t, l, seed)
		got := search(o.source())
		o.looksRight(what+call, want.stats.Shells)
		same(t, what+call, got, want)
		same(t, what+call+" of another source", search(made), want)
		for j, values := range l.values {
			_, n := l.span(j)
			want.stats.Steps -= (n + 1) * len(values)
		}
		if want.stats.Steps > 0 || len(got.hits) > got.stats.Pairs {
			t.Fatalf("11.10: %s%s: Stats are %s", what, call, told(got.stats))
		}
	}
	for _, k := range ks {
		hits, x := l.topK(k)
		try("11.2: TopK", answer{hits, x, api.OK}, func(s probe.Source) answer { return answered(probe.TopK(s, l.q, k)) })
		if all := ordered(l.q, l.pairs); !slices.Equal(hits, all[:min(k, len(all))]) {
			t.Fatalf("11.8: %sthe %d nearest are %s, not all of them", what, k, told(hits))
		}
		for _, n := range shells {
			hits, x := l.few(k, n)
			try("11.4: Few", answer{hits, x, api.OK}, func(s probe.Source) answer { return answered(probe.Few(s, l.q, k, n)) })
		}
	}
	for _, r := range rs {
		hits, x := l.radius(r)
		try("11.3: Radius", answer{hits, x, api.OK}, func(s probe.Source) answer { return answered(probe.Radius(s, l.q, r)) })
		for i, h := range ordered(l.q, l.pairs) {
			if (h.Dist <= r) != (i < len(hits)) {
				t.Fatalf("11.8: %s%d are within %d, hit %d is %s", what, len(hits), r, i, told(h))
			}
		}
	}
}

// TestSamples: sources of all cuts, near and far queries.
func TestSamples(t *testing.T) {
	for i, cut := range cuts() {
		w, m := cut[0], cut[1]
		times := max(2, 3000/(w*m)*4)
		for n := range times {
			seed := 1000*i + n
			x := sample.From(seed)
			pairs, q := sampled(x, w, m, []int{0, 1, 2, 5, 12, 40}[x.Below(6)])
			holds(t, told([]int{w, m, seed})+": ", pairs.of(q), seed, []int{0, 1, 2, 1 + x.Below(45), 4096}, []int{0, m - 1, m, 2*m - 1, x.Below(w + 1), w}, []int{0, 1, 2, x.Below(40), math.MaxInt})
		}
	}
}

// TestManyValues: where chunks have more values than a shell has masks, and less, and as many.
func TestManyValues(t *testing.T) {
	for seed, n := range []int{7, 8, 9, 10, 27, 28, 29, 37, 150} {
		var pairs []api.Pair
		for i := range n {
			pairs = append(pairs, pair(i, strings.Repeat(string([]byte{byte(i*37 + seed)}), 8)))
		}
		m := model{w: 64, m: 8, pairs: pairs}
		for _, q := range []string{zero, ones, low(3), both} {
			holds(t, told(n)+" values: ", m.of(q), seed, []int{1, 3, n}, []int{0, 7, 8, 16, 64}, []int{1, 2, 3, 9})
		}
	}
}

// TestMany: more pairs than can be asked for, of few codes and of many.
func TestMany(t *testing.T) {
	x := sample.From(77)
	q := x.Text(8)
	var pairs []api.Pair
	for i := range 6000 {
		pairs = append(pairs, pair(i, turned(x, q, x.Below(12))))
	}
	for i := range 300 {
		pairs = append(pairs, pair(9000+i, q))
	}
	l := model{w: 64, m: 4, pairs: pairs}.of(q)
	s := of(t, 64, 4, pairs...)
	for _, k := range []int{1, 299, 301, 4095, 4096} {
		hits, stats := l.topK(k)
		same(t, "11.2: TopK of many", answered(probe.TopK(s, q, k)), answer{hits, stats, api.OK})
	}
	for _, r := range []int{0, 1, 5, 64} {
		hits, stats := l.radius(r)
		same(t, "11.3: Radius of many", answered(probe.Radius(s, q, r)), answer{hits, stats, api.OK})
	}
}

// TestFewMasks: a shell with fewer masks than the chunk has values costs no look at every value (W2).
func TestFewMasks(t *testing.T) {
	values := make([]int, 1<<22)
	for i := range values {
		values[i] = 3 * i
	}
	s := probe.Source{Width: 64, Chunks: 2, Codes: len(values)}
	s.Values = func(j int) []int { return values }
	s.At = func(j, value int) ([]api.Pair, api.Errno) { return nil, api.OK }
	const times = 40
	start, odd := time.Now(), 0
	for range 2 * times {
		for _, v := range values {
			odd += v & 1
		}
	}
	looks := time.Since(start)
	start = time.Now()
	for range times {
		same(t, "11.5: a shell of one mask", answered(probe.Few(s, zero, 1, 1)), answer{stats: api.Stats{Shells: 1, Steps: 2}})
	}
	if took := time.Since(start); took > looks/4 {
		t.Errorf("W2: %d times two masks took %v, as many looks at %d values %v (%d)", times, took, len(values), looks, odd)
	}
}

// TestNeverWorse: with more shells the i-th hit of Few is never farther, and from TopK's shells on its hits are TopK's.
func TestNeverWorse(t *testing.T) {
	for seed := range 60 {
		x := sample.From(50000 + seed)
		cut := cuts()[x.Below(len(cuts()))]
		m, q := sampled(x, cut[0], cut[1], 30)
		s, k := of(t, m.w, m.m, m.pairs...), 1+x.Below(32)
		top, stats, _ := probe.TopK(s, q, k)
		var before []api.Hit
		for n := range 35 {
			hits, _, e := probe.Few(s, q, k, n)
			if e != api.OK || len(hits) < len(before) {
				t.Fatalf("11.9: seed %d: %d shells find %d hits, one less %d; %d", seed, n, len(hits), len(before), e)
			}
			for i, h := range before {
				if hits[i].Dist > h.Dist {
					t.Fatalf("11.9: seed %d: with %d shells hit %d is %s, with one less %s", seed, n, i, told(hits[i]), told(h))
				}
			}
			if n >= stats.Shells && !slices.Equal(hits, top) {
				t.Fatalf("11.9: seed %d: %d shells find %s, TopK %s behind %d", seed, n, told(hits), told(top), stats.Shells)
			}
			before = hits
		}
	}
}

// TestRefusalOfTheSource: wherever At refuses, that is the answer, if the value is of a shell that is gone through; else nothing is changed by it.
func TestRefusalOfTheSource(t *testing.T) {
	for seed := range 12 {
		x := sample.From(60000 + seed)
		cut := cuts()[x.Below(10)]
		m, q := sampled(x, cut[0], cut[1], 15)
		l, s := m.of(q), of(t, m.w, m.m, m.pairs...)
		whole := s.At
		for name, search := range map[string]func() answer{
			"11.6: TopK":   func() answer { return answered(probe.TopK(s, q, 2)) },
			"11.6: Radius": func() answer { return answered(probe.Radius(s, q, 2*m.m)) },
			"11.6: Few":    func() answer { return answered(probe.Few(s, q, 3, 2)) },
		} {
			s.At = whole
			want := search()
			o := watched(t, l, seed)
			for j, values := range l.values {
				for _, value := range values {
					for _, e := range []api.Errno{api.ErrDown, 9999, -1} {
						s.At = func(i, v int) ([]api.Pair, api.Errno) {
							if i == j && v == value {
								return []api.Pair{pair(1, q)}, e
							}
							return whole(i, v)
						}
						if o.away(j, value) < want.stats.Shells {
							same(t, name, search(), answer{e: e})
						} else {
							same(t, name, search(), want)
						}
					}
				}
			}
		}
	}
}

// TestAnswersAreNewMemory: hits share nothing with the source, nor with each other.
func TestAnswersAreNewMemory(t *testing.T) {
	text := []byte(both)
	shared := []api.Pair{pair(4, unsafe.String(&text[0], 8)), pair(2, unsafe.String(&text[0], 8))}
	s := probe.Source{Width: 64, Chunks: 2, Codes: 1, Values: func(j int) []int { return []int{[]int{0x100, 0x10}[j]} }, At: func(j, value int) ([]api.Pair, api.Errno) { return shared, api.OK }}
	want := []api.Hit{hit(2, 2, both), hit(2, 4, both)}
	top, _, _ := probe.TopK(s, zero, 2)
	ball, _, _ := probe.Radius(s, zero, 9)
	few, _, _ := probe.Few(s, zero, 2, 2)
	for i := range text {
		text[i] = 'x'
	}
	shared[0], shared[1] = pair(9, zero), pair(9, zero)
	for _, list := range [][]api.Hit{top, ball, few} {
		if !slices.Equal(list, want) {
			t.Errorf("R4: behind a change of the source the hits are %s", told(list))
		}
		for i := range list[:cap(list)] {
			list[:cap(list)][i] = hit(-1, -1, "spoilt")
		}
	}
}

// TestUntrueSources: whatever a source's functions answer, searches end and do not panic.
func TestUntrueSources(t *testing.T) {
	for seed := range 400 {
		x := sample.From(70000 + seed)
		cut := cuts()[x.Below(len(cuts()))]
		q := x.Text(cut[0] / 8)
		junk := []int{math.MinInt, -1, 0, 1, 2, 255, 256, 1<<32 - 1, 1 << 32, math.MaxInt}
		texts := []string{"", "x", q, q + "x", q[1:], complement(q), strings.Repeat("y", 128)}
		s := probe.Source{Width: cut[0], Chunks: cut[1], Codes: []int{0, 1, 5, math.MaxInt}[x.Below(4)]}
		s.Values = func(j int) []int {
			var list []int
			for range x.Below(40) {
				list = append(list, junk[x.Below(len(junk))]^x.Below(4))
			}
			return list
		}
		s.At = func(j, value int) ([]api.Pair, api.Errno) {
			var list []api.Pair
			for range x.Below(5) {
				list = append(list, pair(junk[x.Below(len(junk))], texts[x.Below(len(texts))]))
			}
			return list, api.OK
		}
		probe.TopK(s, q, 1+x.Below(9))
		probe.TopK(s, q, 4096)
		probe.Radius(s, q, x.Below(cut[0]+1))
		probe.Few(s, q, 4096, math.MaxInt)
	}
}
