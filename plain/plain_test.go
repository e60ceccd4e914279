package plain_test

import (
	"math"
	"slices"
	"strings"
	"testing"
	"unsafe"

	"kindred/api"
	"kindred/internal/sample"
	"kindred/plain"
)

const ones = "\xff\xff\xff\xff\xff\xff\xff\xff"

// z is eight bytes, the last one c, the others 0.
func z(c byte) string { return "\x00\x00\x00\x00\x00\x00\x00" + string([]byte{c}) }

func hit(dist, id int, code string) api.Hit { return api.Hit{Dist: dist, ID: id, Code: code} }

func put(seq, id int, code string) api.Update {
	return api.Update{Seq: seq, Kind: api.Put, ID: id, Code: code}
}

func dead(seq, id int) api.Update { return api.Update{Seq: seq, Kind: api.Dead, ID: id} }

// loose is a text whose bytes can be changed behind a call's back.
func loose(b []byte) string { return unsafe.String(&b[0], len(b)) }

func newMap(t *testing.T, w int, pairs ...api.Pair) *plain.Map {
	t.Helper()
	x, e := plain.New(w)
	if x == nil || e != api.OK {
		t.Fatalf("13.1: New(%d) = %v, %d", w, x, e)
	}
	for _, p := range pairs {
		answers(t, "13.2: Insert", x.Insert(p.ID, p.Code), api.OK)
	}
	return x
}

// example is the chapter's map, as TopK finds it first.
func example(t *testing.T) *plain.Map {
	t.Helper()
	return newMap(t, 64, api.Pair{ID: 5, Code: z(0)}, api.Pair{ID: 1 << 48, Code: ones}, api.Pair{ID: 3, Code: z(0)}, api.Pair{ID: 4, Code: z(3)}, api.Pair{ID: 2, Code: z(1)})
}

// seen are the hits of the chapter's map, as z sees them.
func seen() []api.Hit {
	return []api.Hit{hit(0, 3, z(0)), hit(0, 5, z(0)), hit(1, 2, z(1)), hit(2, 4, z(3)), hit(64, 1<<48, ones)}
}

func answers(t *testing.T, what string, got, want api.Errno) {
	t.Helper()
	if got != want {
		t.Fatalf("%s: %d, want %d", what, got, want)
	}
}

func gets(t *testing.T, x *plain.Map, id int, code string, want api.Errno) {
	t.Helper()
	if got, e := x.Get(id); got != code || e != want {
		t.Fatalf("13.2: Get(%d) = %q, %d, want %q, %d", id, got, e, code, want)
	}
}

func topK(t *testing.T, x *plain.Map, q string, k int, want ...api.Hit) {
	t.Helper()
	if list, e := x.TopK(q, k); e != api.OK || !slices.Equal(list, want) {
		t.Fatalf("13.6: TopK(%q, %d) = %s, %d, want %s", q, k, told(list), e, told(want))
	}
}

func radius(t *testing.T, x *plain.Map, q string, r int, want ...api.Hit) {
	t.Helper()
	if list, e := x.Radius(q, r); e != api.OK || !slices.Equal(list, want) {
		t.Fatalf("13.6: Radius(%q, %d) = %s, %d, want %s", q, r, told(list), e, told(want))
	}
}

func histogram(t *testing.T, x *plain.Map, q string, want []int) {
	t.Helper()
	if list, e := x.Histogram(q); e != api.OK || !slices.Equal(list, want) {
		t.Fatalf("13.6: Histogram(%q) = %v, %d, want %v", q, list, e, want)
	}
}

// state: a map has just these pairs, and so many updates were accepted.
func state(t *testing.T, where string, x *plain.Map, seq int, want ...api.Pair) {
	t.Helper()
	for range 2 { // a question changes nothing
		if got := x.Pairs(); !slices.Equal(got, want) || x.Count() != len(want) || x.Seq() != seq {
			t.Fatalf("13.3: %s: Pairs %s, Count %d, Seq %d, want %s, %d, %d", where, told(got), x.Count(), x.Seq(), told(want), len(want), seq)
		}
	}
}

func TestExamples(t *testing.T) {
	x := newMap(t, 64)
	answers(t, "Insert(5, z)", x.Insert(5, z(0)), api.OK)
	answers(t, "Insert(5, 1)", x.Insert(5, z(1)), api.ErrTwice)
	answers(t, "Insert(-1, x)", x.Insert(-1, "x"), api.ErrID)
	answers(t, "Insert(2^48, f)", x.Insert(1<<48, ones), api.OK)
	answers(t, "Insert(2^48 + 1, f)", x.Insert(1<<48+1, ones), api.ErrID)
	answers(t, "Insert(6, x)", x.Insert(6, "x"), api.ErrCode)
	answers(t, "Delete(7)", x.Delete(7), api.ErrGone)
	answers(t, "Delete(-1)", x.Delete(-1), api.ErrID)
	gets(t, x, 5, z(0), api.OK)
	gets(t, x, 7, "", api.ErrGone)
	state(t, "two pairs", x, 2, api.Pair{ID: 5, Code: z(0)}, api.Pair{ID: 1 << 48, Code: ones})
	answers(t, "Insert(3, z)", x.Insert(3, z(0)), api.OK)
	answers(t, "Insert(4, 3)", x.Insert(4, z(3)), api.OK)
	answers(t, "Insert(2, 1)", x.Insert(2, z(1)), api.OK)
	all := seen()
	topK(t, x, z(0), 3, all[:3]...)
	topK(t, x, z(0), 0)
	topK(t, x, ones, 1, hit(0, 1<<48, ones))
	radius(t, x, z(0), 1, all[:3]...)
	radius(t, x, z(0), 0, all[:2]...)
	radius(t, x, z(0), 63, all[:4]...)
	radius(t, x, z(0), 64, all...)
	want := make([]int, 65)
	want[0], want[1], want[2], want[64] = 2, 1, 1, 1
	histogram(t, x, z(0), want)
	answers(t, "Delete(5)", x.Delete(5), api.OK)
	answers(t, "Insert(5, f)", x.Insert(5, ones), api.OK)
	topK(t, x, ones, 2, hit(0, 5, ones), hit(0, 1<<48, ones))
}

func TestNewAtAllWidths(t *testing.T) {
	widths := []int{math.MinInt, math.MinInt + 64, -1 << 32, 1<<32 + 64, 1 << 62, math.MaxInt - 63, math.MaxInt}
	for w := -130; w <= 2200; w++ {
		widths = append(widths, w)
	}
	for _, w := range widths {
		x, e := plain.New(w)
		if w < 64 || w > 1024 || w%64 != 0 {
			if x != nil || e != api.ErrWidth {
				t.Fatalf("13.1: New(%d) = %v, %d, want nil, ErrWidth", w, x, e)
			}
			continue
		}
		if x == nil || e != api.OK {
			t.Fatalf("13.1: New(%d) = %v, %d", w, x, e)
		}
		state(t, "a new map", x, 0)
		a, far := strings.Repeat("a", w/8), strings.Repeat("\x9e", w/8) // 'a' is 61: as far as can be
		topK(t, x, a, 4096)
		radius(t, x, a, w)
		histogram(t, x, a, make([]int, w+1))
		answers(t, "13.2: Insert", x.Insert(0, a), api.OK)
		radius(t, x, far, w-1)
		radius(t, x, far, w, hit(w, 0, a))
		topK(t, x, far, 1, hit(w, 0, a))
		want := make([]int, w+1)
		want[w] = 1
		histogram(t, x, far, want)
	}
}

func badIDs() []int {
	return []int{math.MinInt, -1 << 48, -1 << 32, -2, -1, 1<<48 + 1, 1<<48 + 5, 1 << 49, 1 << 62, math.MaxInt - 1, math.MaxInt}
}

func badCodes() []string {
	return []string{"", "x", z(0)[1:], z(0) + "\x00", z(0) + z(0), strings.Repeat("\x00", 128), strings.Repeat("\x00", 1<<16)}
}

// TestRefusedUpdates: which refusal comes first, and that nothing has changed.
func TestRefusedUpdates(t *testing.T) {
	x := example(t)
	pairs := x.Pairs()
	for _, id := range badIDs() {
		for _, code := range append(badCodes(), z(9)) {
			answers(t, "13.2: Insert of a bad id", x.Insert(id, code), api.ErrID)
		}
		answers(t, "13.2: Delete of a bad id", x.Delete(id), api.ErrID)
		gets(t, x, id, "", api.ErrID)
	}
	for _, code := range badCodes() {
		for _, id := range []int{0, 1, 2, 5, 6, 1<<48 - 1, 1 << 48} {
			answers(t, "13.2: Insert of a bad code", x.Insert(id, code), api.ErrCode)
		}
	}
	for _, p := range pairs {
		for _, code := range []string{p.Code, z(0), z(9), ones} {
			answers(t, "13.2: Insert of an id that is there", x.Insert(p.ID, code), api.ErrTwice)
		}
		gets(t, x, p.ID, p.Code, api.OK)
	}
	for _, id := range []int{0, 1, 6, 1<<48 - 1, 1 << 32, 1<<32 + 5} {
		answers(t, "13.2: Delete of what is not there", x.Delete(id), api.ErrGone)
		gets(t, x, id, "", api.ErrGone)
	}
	state(t, "behind refusals", x, 5, pairs...)
}

// TestEdgesOfIDs: the least and the greatest, and those that are like in their lower half.
func TestEdgesOfIDs(t *testing.T) {
	ids := []int{0, 1, 1<<16 - 1, 1 << 31, 1 << 32, 1<<32 + 1, 1<<48 - 1, 1 << 48}
	x := newMap(t, 64)
	var want []api.Pair
	for i, id := range ids {
		answers(t, "13.2: Insert", x.Insert(id, z(byte(i))), api.OK)
		want = append(want, api.Pair{ID: id, Code: z(byte(i))})
	}
	state(t, "ids", x, len(ids), want...)
	for i, id := range ids {
		gets(t, x, id, z(byte(i)), api.OK)
		answers(t, "13.2: Delete", x.Delete(id), api.OK)
		gets(t, x, id, "", api.ErrGone)
		answers(t, "13.2: Delete again", x.Delete(id), api.ErrGone)
		state(t, "behind Delete", x, len(ids)+i+1, want[i+1:]...)
	}
	for i, id := range ids {
		answers(t, "13.2: Insert again", x.Insert(id, z(byte(i))), api.OK)
	}
	state(t, "ids again", x, 3*len(ids), want...)
}

func TestRefusedSearches(t *testing.T) {
	x := example(t)
	far := []int{math.MinInt, -1 << 32, -4096, -2, -1, math.MaxInt - 64, math.MaxInt, 1 << 32, 1<<32 + 1}
	for _, q := range badCodes() {
		if list, e := x.Histogram(q); len(list) != 0 || e != api.ErrCode {
			t.Fatalf("13.6: Histogram of %d bytes = %v, %d", len(q), list, e)
		}
		for _, n := range append(far, 0, 1, 64, 65, 4096, 4097) {
			if list, e := x.TopK(q, n); len(list) != 0 || e != api.ErrCode {
				t.Fatalf("13.6: TopK of %d bytes = %s, %d", len(q), told(list), e)
			}
			if list, e := x.Radius(q, n); len(list) != 0 || e != api.ErrCode {
				t.Fatalf("13.6: Radius of %d bytes = %s, %d", len(q), told(list), e)
			}
		}
	}
	for _, k := range append(far, 4097, 1<<20) {
		if list, e := x.TopK(z(0), k); len(list) != 0 || e != api.ErrK {
			t.Fatalf("13.6: TopK(z, %d) = %s, %d", k, told(list), e)
		}
	}
	for _, r := range append(far, 65, 66, 1024, 1025, 4096) {
		if list, e := x.Radius(z(0), r); len(list) != 0 || e != api.ErrRadius {
			t.Fatalf("13.6: Radius(z, %d) = %s, %d", r, told(list), e)
		}
	}
	topK(t, x, z(0), 4096, seen()...)
	// The radius goes up to the map's own width.
	for w := 64; w <= 1024; w += 64 {
		y, q := newMap(t, w), strings.Repeat("q", w/8)
		radius(t, y, q, w)
		if _, e := y.Radius(q, w+1); e != api.ErrRadius {
			t.Fatalf("13.6: Radius(.., %d) of %d bits answers %d", w+1, w, e)
		}
	}
	state(t, "behind searches", x, 5, x.Pairs()...)
}

func TestPlayByHand(t *testing.T) {
	odd := func(seq, kind, id int, code string) api.Update {
		return api.Update{Seq: seq, Kind: kind, ID: id, Code: code}
	}
	five := []api.Pair{{ID: 5, Code: z(0)}}
	for i, c := range []struct {
		updates []api.Update
		made    int
		e       api.Errno
		want    []api.Pair
	}{
		{nil, 0, api.OK, nil},
		{[]api.Update{}, 0, api.OK, nil},
		{[]api.Update{put(1, 5, z(0)), dead(2, 5), put(4, 6, z(0))}, 2, api.ErrSeq, nil},
		{[]api.Update{dead(1, 5)}, 0, api.ErrGone, nil},
		{[]api.Update{odd(1, 3, 5, "")}, 0, api.ErrSeq, nil},
		{[]api.Update{odd(1, 2, 5, z(0))}, 0, api.ErrCode, nil},
		{[]api.Update{put(1, 5, z(0))}, 1, api.OK, five},
		{[]api.Update{put(1, 5, z(0)), put(1, 6, z(0))}, 1, api.ErrSeq, five},
		{[]api.Update{put(1, 5, z(0)), put(3, 6, z(0)), put(2, 7, z(0))}, 1, api.ErrSeq, five},
		{[]api.Update{put(1, 5, z(0)), put(2, 5, z(1)), put(2, 6, z(1))}, 1, api.ErrTwice, five},
		{[]api.Update{put(1, 4, z(0)), dead(2, 4), put(3, 5, z(0)), dead(4, 4)}, 3, api.ErrGone, five},
		{[]api.Update{put(1, 5, z(1)), dead(2, 5), put(3, 5, z(0))}, 3, api.OK, five},
		// Of several faults the first in the chapter's order.
		{[]api.Update{odd(2, 3, -1, "x")}, 0, api.ErrSeq, nil},
		{[]api.Update{odd(2, 1, -1, "x")}, 0, api.ErrSeq, nil},
		{[]api.Update{odd(2, 2, -1, "x")}, 0, api.ErrSeq, nil},
		{[]api.Update{odd(1, 0, -1, "x")}, 0, api.ErrSeq, nil},
		{[]api.Update{odd(1, 1, -1, "x")}, 0, api.ErrID, nil},
		{[]api.Update{odd(1, 1, 5, "x")}, 0, api.ErrCode, nil},
		{[]api.Update{odd(1, 1, 5, "")}, 0, api.ErrCode, nil},
		{[]api.Update{odd(1, 2, -1, "x")}, 0, api.ErrCode, nil},
		{[]api.Update{odd(1, 2, -1, z(0))}, 0, api.ErrCode, nil},
		{[]api.Update{odd(1, 2, -1, "")}, 0, api.ErrID, nil},
		{[]api.Update{odd(1, 2, 1<<48+1, "")}, 0, api.ErrID, nil},
		{[]api.Update{put(1, 5, z(0)), odd(2, 2, 5, "\x00")}, 1, api.ErrCode, five},
		{[]api.Update{put(1, 5, z(0)), odd(2, 1, 5, "x")}, 1, api.ErrCode, five},
	} {
		x := newMap(t, 64)
		made, e := x.Play(c.updates)
		if made != c.made || e != c.e {
			t.Fatalf("13.4: row %d: Play(%s) = %d, %d, want %d, %d", i, told(c.updates), made, e, c.made, c.e)
		}
		state(t, "13.4: behind Play", x, c.made, c.want...)
	}
}

// TestPlayNumbers: whatever stands in Seq and Kind, on a map that has a past.
func TestPlayNumbers(t *testing.T) {
	x := example(t)
	answers(t, "13.2: Delete", x.Delete(4), api.OK)
	pairs := x.Pairs() // Seq is 6
	numbers := []int{math.MinInt, math.MinInt + 1, -1 << 32, -7, -1, 0, 1, 2, 3, 5, 6, 8, 256 + 1, 256 + 2, 1<<32 + 1, 1<<32 + 2, 1<<32 + 7, 1 << 60, math.MaxInt}
	for _, n := range numbers {
		if made, e := x.Play([]api.Update{put(n, 6, z(6))}); made != 0 || e != api.ErrSeq {
			t.Fatalf("13.4: Play of update %d behind 6 = %d, %d", n, made, e)
		}
		if made, e := x.Play([]api.Update{dead(n, 5)}); made != 0 || e != api.ErrSeq {
			t.Fatalf("13.4: Play of update %d behind 6 = %d, %d", n, made, e)
		}
		if n == 1 || n == 2 {
			continue
		}
		for _, code := range []string{"", z(6)} {
			if made, e := x.Play([]api.Update{{Seq: 7, Kind: n, ID: 5, Code: code}}); made != 0 || e != api.ErrSeq {
				t.Fatalf("13.4: Play of kind %d = %d, %d", n, made, e)
			}
		}
	}
	state(t, "behind refused updates", x, 6, pairs...)
	if made, e := x.Play([]api.Update{put(7, 6, z(6)), dead(8, 5)}); made != 2 || e != api.OK {
		t.Fatalf("13.4: Play behind six updates = %d, %d", made, e)
	}
	gets(t, x, 6, z(6), api.OK)
	gets(t, x, 5, "", api.ErrGone)
}

func TestCopy(t *testing.T) {
	x := example(t)
	pairs, all := x.Pairs(), seen()
	y := x.Copy()
	state(t, "13.5: a copy", y, 5, pairs...)
	topK(t, y, z(0), 9, all...)
	// What is done with the one is not seen in the other, either way.
	answers(t, "Delete", x.Delete(5), api.OK)
	answers(t, "Insert", x.Insert(7, z(7)), api.OK)
	answers(t, "Insert", x.Insert(5, ones), api.OK)
	state(t, "13.5: the copy", y, 5, pairs...)
	v := x.Copy()
	was := x.Pairs()
	answers(t, "Delete", y.Delete(3), api.OK)
	answers(t, "Insert", y.Insert(9, z(9)), api.OK)
	if made, e := v.Play([]api.Update{dead(9, 2)}); made != 1 || e != api.OK {
		t.Fatalf("13.5: a copy goes on at another number: %d, %d", made, e)
	}
	state(t, "13.5: the first one", x, 8, was...)
	if y.Seq() != 7 || v.Seq() != 9 || y.Count() != 5 || v.Count() != 5 {
		t.Fatalf("13.5: Seq %d and %d, Count %d and %d", y.Seq(), v.Seq(), y.Count(), v.Count())
	}
	// A copy takes codes of the same width, and those alone.
	for _, w := range []int{64, 128, 1024} {
		c := newMap(t, w).Copy()
		state(t, "13.5: a copy of a new map", c, 0)
		answers(t, "13.5: Insert into a copy", c.Insert(1, strings.Repeat("a", w/8)), api.OK)
		answers(t, "13.5: Insert into a copy", c.Insert(2, strings.Repeat("a", w/8-8)), api.ErrCode)
		histogram(t, c, strings.Repeat("a", w/8), append([]int{1}, make([]int, w)...))
	}
}

// twin is a map and its model, on which the same is done.
type twin struct {
	t *testing.T
	x *plain.Map
	m *model
}

func (o *twin) insert(id int, code string) {
	o.t.Helper()
	answers(o.t, "13.2: Insert", o.x.Insert(id, code), o.m.insert(id, code))
}

func (o *twin) delete(id int) {
	o.t.Helper()
	answers(o.t, "13.2: Delete", o.x.Delete(id), o.m.delete(id))
}

func (o *twin) play(updates []api.Update) {
	o.t.Helper()
	made, e := o.x.Play(updates)
	if want, wantE := o.m.play(updates); made != want || e != wantE {
		o.t.Fatalf("13.4: Play(%s) = %d, %d, want %d, %d", told(updates), made, e, want, wantE)
	}
}

func (o *twin) ask(q string, k, r, id int) {
	o.t.Helper()
	list, e := o.x.TopK(q, k)
	if want, wantE := o.m.topK(q, k); e != wantE || !slices.Equal(list, want) {
		o.t.Fatalf("13.6: TopK(%q, %d) = %s, %d, want %s, %d", q, k, told(list), e, told(want), wantE)
	}
	list, e = o.x.Radius(q, r)
	if want, wantE := o.m.radius(q, r); e != wantE || !slices.Equal(list, want) {
		o.t.Fatalf("13.6: Radius(%q, %d) = %s, %d, want %s, %d", q, r, told(list), e, told(want), wantE)
	}
	want, wantE := o.m.get(id)
	gets(o.t, o.x, id, want, wantE)
}

func (o *twin) alike() {
	o.t.Helper()
	state(o.t, "a row of calls", o.x, len(o.m.log), o.m.pairs()...)
}

// updates are made up, most of them such as will be accepted.
func updates(s *sample.Source, seq int, ids []int, codes []string) []api.Update {
	var list []api.Update
	for i := range s.Below(5) {
		u := api.Update{Seq: seq + i + 1, Kind: 1 + s.Below(2), ID: ids[s.Below(len(ids))]}
		if u.Kind == 1 || s.Below(9) == 0 {
			u.Code = codes[s.Below(len(codes))]
		}
		switch s.Below(15) {
		case 0:
			u.Seq += s.Below(3) - 1
		case 1:
			u.Kind = s.Below(4)
		}
		list = append(list, u)
	}
	return list
}

func TestAgainstModel(t *testing.T) {
	made := 0
	for seed := range 120 {
		s := sample.From(seed)
		w := 64
		if seed%3 == 0 {
			w = 64 * (1 + s.Below(16))
		}
		o := &twin{t: t, x: newMap(t, w), m: &model{w: w}}
		codes := append(pool(s, w, 30), "", "x", strings.Repeat("y", w/8+1))
		ids := []int{-1, 1<<48 + 1, 1 << 48, 1<<48 - 1, 0}
		for i := range 1 + s.Below(30) {
			ids = append(ids, i*i*i)
		}
		for range 120 {
			id, code := ids[s.Below(len(ids))], codes[s.Below(len(codes))]
			switch s.Below(6) {
			case 0, 1:
				o.insert(id, code)
			case 2:
				o.delete(id)
			case 3:
				o.play(updates(s, len(o.m.log), ids, codes))
			case 4:
				o.x = o.x.Copy()
			default:
				k := []int{-1, 0, 1, 2, 3, 7, 20, 4096, 4097}[s.Below(9)]
				o.ask(turned(s, code+"\x00", 4)[:len(code)], k, s.Below(w+3)-1, id)
				o.ask(turned(s, codes[s.Below(30)], 3), 1+s.Below(9), s.Below(12), id)
			}
			o.alike()
		}
		for _, q := range codes[:5] {
			want, _ := o.m.histogram(q)
			histogram(t, o.x, q, want)
		}
		made += len(o.m.log)
		// Play of the accepted updates from a new map on is the map.
		y := newMap(t, w)
		if n, e := y.Play(o.m.log); n != len(o.m.log) || e != api.OK {
			t.Fatalf("13.8: Play of %d accepted updates = %d, %d", len(o.m.log), n, e)
		}
		state(t, "13.8: played anew", y, o.x.Seq(), o.x.Pairs()...)
		sameAnswers(t, s, o.x, y, w)
	}
	if made < 3000 {
		t.Fatalf("the rows of calls make %d updates only", made)
	}
}

// sameAnswers: two maps answer every question but Seq alike.
func sameAnswers(t *testing.T, s *sample.Source, x, y *plain.Map, w int) {
	t.Helper()
	pairs := x.Pairs()
	if !slices.Equal(pairs, y.Pairs()) || x.Count() != y.Count() {
		t.Fatalf("13.8: Pairs %s and %s", told(pairs), told(y.Pairs()))
	}
	for i := range 12 {
		q := s.Text(w / 8)
		if i%2 == 1 && len(pairs) > 0 {
			p := pairs[s.Below(len(pairs))]
			q = turned(s, p.Code, s.Below(6))
			gets(t, y, p.ID, p.Code, api.OK)
		}
		k, r := s.Below(len(pairs)+2), s.Below(w+1)
		a, _ := x.TopK(q, k)
		topK(t, y, q, k, a...)
		a, _ = x.Radius(q, r)
		radius(t, y, q, r, a...)
		h, _ := x.Histogram(q)
		histogram(t, y, q, h)
	}
}

// some is a map with some pairs, and the codes that are near them.
func some(t *testing.T, s *sample.Source, w, n int) (*plain.Map, []string) {
	t.Helper()
	codes := pool(s, w, n)
	x := newMap(t, w)
	for i, code := range shuffled(s, codes) {
		answers(t, "13.2: Insert", x.Insert((i*37)%n, code), api.OK)
	}
	return x, codes
}

// TestSearchesHangTogether: TopK, Radius, Histogram and Count.
func TestSearchesHangTogether(t *testing.T) {
	for seed := range 16 {
		s := sample.From(500 + seed)
		w := 64 * (1 + s.Below(16))
		x, codes := some(t, s, w, 101)
		for range 2 {
			q := turned(s, codes[s.Below(len(codes))], s.Below(9))
			all, e := x.Radius(q, w)
			if e != api.OK || len(all) != 101 {
				t.Fatalf("13.7: Radius(q, %d) has %d of 101, %d", w, len(all), e)
			}
			for _, k := range []int{0, 1, 2, s.Below(101), 100, 101, 102, 4096} {
				topK(t, x, q, k, all[:min(k, 101)]...)
			}
			counts, _ := x.Histogram(q)
			if len(counts) != w+1 {
				t.Fatalf("13.6: Histogram has %d numbers, want %d", len(counts), w+1)
			}
			sum := 0
			for r, n := range counts {
				sum += n
				if near, _ := x.Radius(q, r); len(near) != sum || !slices.Equal(near, all[:sum]) {
					t.Fatalf("13.7: Radius(q, %d) has %d, the histogram %d", r, len(near), sum)
				}
			}
			if sum != x.Count() {
				t.Fatalf("13.7: the histogram has %d, Count is %d", sum, x.Count())
			}
		}
	}
}

// TestWayThereDoesNotCount: the pairs in any order, with others that come and go.
func TestWayThereDoesNotCount(t *testing.T) {
	for seed := range 20 {
		s := sample.From(900 + seed)
		w := 64 * (1 + s.Below(4))
		x, codes := some(t, s, w, 90)
		for range 3 {
			y := newMap(t, w)
			for _, p := range shuffled(s, x.Pairs()) {
				if s.Below(3) == 0 { // another code under the id, which goes again
					answers(t, "13.2: Insert", y.Insert(p.ID, codes[s.Below(90)]), api.OK)
					answers(t, "13.2: Delete", y.Delete(p.ID), api.OK)
				}
				answers(t, "13.2: Insert", y.Insert(p.ID, p.Code), api.OK)
				if s.Below(3) == 0 {
					answers(t, "13.2: Insert", y.Insert(1000+p.ID, p.Code), api.OK)
				}
			}
			for id := 1000; id < 1090; id++ {
				y.Delete(id)
			}
			sameAnswers(t, s, x, y, w)
		}
	}
}

// TestTriangle: what is near one code is not much further from another.
func TestTriangle(t *testing.T) {
	for seed := range 40 {
		s := sample.From(1300 + seed)
		w := 64 * (1 + s.Below(16))
		x, codes := some(t, s, w, 60)
		for range 20 {
			q := turned(s, codes[s.Below(60)], s.Below(9))
			p := turned(s, codes[s.Below(60)], s.Below(9))
			d := apart(p, q)
			near := map[int]int{}
			all, _ := x.Radius(q, w)
			for _, h := range all {
				near[h.ID] = h.Dist
			}
			other, _ := x.Radius(p, w)
			for _, h := range other {
				if e := near[h.ID]; h.Dist < e-d || h.Dist > e+d || d > e+h.Dist {
					t.Fatalf("13.9: %d is %d from q and %d from p, which are %d apart", h.ID, e, h.Dist, d)
				}
			}
			for _, r := range []int{0, 1, 5, w / 2, w - d} {
				if r < 0 || r+d > w {
					continue
				}
				wide, _ := x.Radius(p, r+d)
				narrow, _ := x.Radius(q, r)
				for _, h := range narrow {
					if !slices.ContainsFunc(wide, func(g api.Hit) bool { return g.ID == h.ID && g.Code == h.Code }) {
						t.Fatalf("13.9: %d is within %d of q, but not within %d of p", h.ID, r, r+d)
					}
				}
			}
		}
	}
}

// full is a map with as many pairs as there can be; the code of id i begins with i in three bytes.
func full(t *testing.T) *plain.Map {
	t.Helper()
	x := newMap(t, 64)
	for i := range api.MaxPairs {
		if e := x.Insert(i, numbered(i)); e != api.OK {
			t.Fatalf("13.2: Insert of pair %d answers %d", i, e)
		}
	}
	return x
}

func numbered(i int) string {
	return string([]byte{byte(i >> 16), byte(i >> 8), byte(i), 0, 0, 0, 0, 0})
}

func TestMany(t *testing.T) {
	const many = api.MaxPairs
	x := full(t)
	answers(t, "13.2: Insert of one more", x.Insert(many, z(0)), api.ErrMany)
	answers(t, "13.2: Insert of one more", x.Insert(1<<48, ones), api.ErrMany)
	answers(t, "13.2: Insert of an id that is there", x.Insert(7, z(0)), api.ErrTwice)
	answers(t, "13.2: Insert of a bad code", x.Insert(many, "x"), api.ErrCode)
	answers(t, "13.2: Insert of a bad id", x.Insert(-1, "x"), api.ErrID)
	if made, e := x.Play([]api.Update{put(many+1, many, z(0))}); made != 0 || e != api.ErrMany {
		t.Errorf("13.4: Play of one more = %d, %d", made, e)
	}
	if x.Count() != many || x.Seq() != many {
		t.Fatalf("13.3: Count %d, Seq %d", x.Count(), x.Seq())
	}
	// Of 20 bits each value is there once: at distance d from z there are 20 over d.
	want, n := make([]int, 65), 1
	for d := range 21 {
		want[d] = n
		n = n * (20 - d) / (d + 1)
	}
	histogram(t, x, z(0), want)
	if list, e := x.Radius(z(0), 3); e != api.OK || len(list) != 1+20+190+1140 || list[0] != hit(0, 0, z(0)) || list[20] != hit(1, 1<<19, numbered(1<<19)) {
		t.Errorf("13.6: Radius(z, 3) has %d, %d", len(list), e)
	}
	if list, e := x.TopK(z(0), 4096); e != api.OK || len(list) != 4096 || list[0] != hit(0, 0, z(0)) || list[4095].Dist != 4 {
		t.Errorf("13.6: TopK(z, 4096) has %d, %d", len(list), e)
	}
	y := x.Copy()
	answers(t, "13.5: Insert into a full copy", y.Insert(many, z(0)), api.ErrMany)
	// Delete leads back, for one.
	answers(t, "13.2: Delete", x.Delete(12345), api.OK)
	if made, e := x.Play([]api.Update{put(many+2, 1<<48, z(0)), put(many+3, 12345, z(0))}); made != 1 || e != api.ErrMany {
		t.Errorf("13.4: Play of two more = %d, %d", made, e)
	}
	answers(t, "13.2: Insert of one more", x.Insert(12345, z(0)), api.ErrMany)
	list := x.Pairs()
	if len(list) != many || list[12345].ID != 12346 || list[many-1] != (api.Pair{ID: 1 << 48, Code: z(0)}) {
		t.Errorf("13.3: Pairs has %d", len(list))
	}
	gets(t, y, 12345, numbered(12345), api.OK)
}

// TestTextsAreNotKept: what a code's bytes become behind a call changes nothing.
func TestTextsAreNotKept(t *testing.T) {
	a, b := []byte(z(1)), []byte(z(2))
	x := newMap(t, 64)
	answers(t, "13.2: Insert", x.Insert(1, loose(a)), api.OK)
	list := make([]api.Update, 1, 2)
	list[0], list[:2][1] = put(2, 2, loose(b)), put(3, 3, z(3))
	if made, e := x.Play(list); made != 1 || e != api.OK {
		t.Fatalf("13.4: Play looks at a list's spare room: %d, %d", made, e)
	}
	if list[0].Seq != 2 || list[0].Kind != 1 || list[0].ID != 2 || list[0].Code != z(2) || list[:2][1] != put(3, 3, z(3)) {
		t.Fatalf("13.4: Play has changed the list: %s", told(list[:2]))
	}
	q := []byte(z(0))
	hits, _ := x.TopK(loose(q), 2)
	copy(a, ones)
	copy(b, ones)
	copy(q, ones)
	list[0] = put(9, 9, z(9))
	state(t, "R4: behind a change of the codes", x, 2, api.Pair{ID: 1, Code: z(1)}, api.Pair{ID: 2, Code: z(2)})
	if want := []api.Hit{hit(1, 1, z(1)), hit(1, 2, z(2))}; !slices.Equal(hits, want) {
		t.Fatalf("R4: behind a change of the query TopK's answer is %s", told(hits))
	}
}

// TestAnswersAreNewMemory: each can be written over.
func TestAnswersAreNewMemory(t *testing.T) {
	x := example(t)
	pairs, all := x.Pairs(), seen()
	wantPairs := slices.Clone(pairs)
	counts, _ := x.Histogram(z(0))
	wantCounts := slices.Clone(counts)
	top, _ := x.TopK(z(0), 9)
	ball, _ := x.Radius(z(0), 64)
	y := x.Copy()
	for range 3 {
		p := y.Pairs()
		h, _ := y.Histogram(z(0))
		a, _ := y.TopK(z(0), 9)
		b, _ := y.Radius(z(0), 64)
		spoil(p, api.Pair{ID: -7, Code: "spoilt"})
		spoil(h, -7)
		spoil(a, hit(-7, -7, "spoilt"))
		if !slices.Equal(b, all) {
			t.Fatalf("13.6: two lists share memory: %s", told(b))
		}
		spoil(b, hit(-7, -7, "spoilt"))
		state(t, "behind a change of the lists", y, 5, wantPairs...)
		topK(t, y, z(0), 9, all...)
		radius(t, y, z(0), 64, all...)
		histogram(t, y, z(0), wantCounts)
		y = x
	}
	if !slices.Equal(pairs, wantPairs) || !slices.Equal(counts, wantCounts) || !slices.Equal(top, all) || !slices.Equal(ball, all) {
		t.Fatal("13.3, 13.6: an answer changes behind the call")
	}
	// What is done with the map behind a call is not seen in its answer.
	x.Delete(3)
	x.Insert(0, ones)
	if !slices.Equal(pairs, wantPairs) || !slices.Equal(top, all) || !slices.Equal(ball, all) {
		t.Fatal("13.3, 13.6: an answer is kept in the map")
	}
}

// spoil writes over a list and its spare room.
func spoil[T any](list []T, with T) {
	list = list[:cap(list)]
	for i := range list {
		list[i] = with
	}
}

// TestSeveralAtATime: maps keep nothing for each other.
func TestSeveralAtATime(t *testing.T) {
	x, y := example(t), newMap(t, 64)
	state(t, "beside a filled one", y, 0)
	answers(t, "13.2: Insert", y.Insert(5, ones), api.OK)
	gets(t, x, 5, z(0), api.OK)
	gets(t, y, 5, ones, api.OK)
	gets(t, y, 3, "", api.ErrGone)
}

// TestNobody: what was never made has no pairs, and no call on it panics.
func TestNobody(t *testing.T) {
	for name, x := range map[string]*plain.Map{"a nil map": nil, "an unmade map": {}} {
		for range 2 {
			answers(t, name+": Insert", x.Insert(-1, ""), api.ErrID)
			for _, code := range []string{"", "x", z(0), strings.Repeat("a", 128)} {
				answers(t, name+": Insert", x.Insert(1, code), api.ErrCode)
				if list, e := x.TopK(code, 1); len(list) != 0 || e != api.ErrCode {
					t.Fatalf("R1: %s: TopK = %s, %d", name, told(list), e)
				}
				if list, e := x.Radius(code, 0); len(list) != 0 || e != api.ErrCode {
					t.Fatalf("R1: %s: Radius = %s, %d", name, told(list), e)
				}
				if list, e := x.Histogram(code); len(list) != 0 || e != api.ErrCode {
					t.Fatalf("R1: %s: Histogram = %v, %d", name, list, e)
				}
			}
			answers(t, name+": Delete", x.Delete(-1), api.ErrID)
			answers(t, name+": Delete", x.Delete(1), api.ErrGone)
			gets(t, x, -1, "", api.ErrID)
			gets(t, x, 1, "", api.ErrGone)
			for _, c := range []struct {
				u api.Update
				e api.Errno
			}{{put(0, 1, z(0)), api.ErrSeq}, {put(1, 1, z(0)), api.ErrCode}, {dead(1, 1), api.ErrGone}} {
				if made, e := x.Play([]api.Update{c.u}); made != 0 || e != c.e {
					t.Fatalf("R1: %s: Play = %d, %d, want %d", name, made, e, c.e)
				}
			}
			if made, e := x.Play(nil); made != 0 || e != api.OK {
				t.Fatalf("R1: %s: Play of none = %d, %d", name, made, e)
			}
			state(t, name, x, 0)
			x = x.Copy()
		}
	}
}
