package best_test

import (
	"math"
	"runtime"
	"slices"
	"strings"
	"testing"
	"unsafe"

	"kindred/api"
	"kindred/best"
	"kindred/internal/sample"
)

type hits = []api.Hit

// h is a hit of one code, as the chapter's examples write it.
func h(dist, id int) api.Hit { return api.Hit{Dist: dist, ID: id, Code: "c"} }

// coded is a hit with a code of its own.
func coded(dist, id int, code string) api.Hit { return api.Hit{Dist: dist, ID: id, Code: code} }

// loose is a text whose bytes can be changed behind a call's back.
func loose(b []byte) string { return unsafe.String(&b[0], len(b)) }

func newTop(t *testing.T, k int) *best.Top {
	t.Helper()
	top, e := best.NewTop(k)
	if top == nil || e != api.OK {
		t.Fatalf("10.1: NewTop(%d): %v, %d", k, top, e)
	}
	return top
}

func newBall(t *testing.T, r int) *best.Ball {
	t.Helper()
	ball, e := best.NewBall(r)
	if ball == nil || e != api.OK {
		t.Fatalf("10.5: NewBall(%d): %v, %d", r, ball, e)
	}
	return ball
}

// first is First of lists that it must take.
func first(t *testing.T, k int, lists ...hits) hits {
	t.Helper()
	list, e := best.First(k, lists)
	if e != api.OK {
		t.Fatalf("10.6: First(%d, ..) answers %d", k, e)
	}
	return list
}

// tells: a top tells just this.
func tells(t *testing.T, where string, top *best.Top, worst int, full bool, list hits) {
	t.Helper()
	for range 2 { // a question changes nothing
		if w, f := top.Worst(); w != worst || f != full {
			t.Fatalf("10.3: %s: Worst is %d, %v, want %d, %v", where, w, f, worst, full)
		}
		if got := top.List(); !slices.Equal(got, list) {
			t.Fatalf("10.2, 10.3: %s: List is %s, want %s", where, told(got), told(list))
		}
	}
}

func TestExamples(t *testing.T) {
	zero := newTop(t, 0)
	if zero.Add(h(0, 1)) {
		t.Errorf("10.2: a top of 0 keeps a hit")
	}
	tells(t, "k = 0", zero, -1, true, nil)
	top := newTop(t, 2)
	tells(t, "k = 2, nothing handed in", top, 0, false, nil)
	for _, c := range []struct {
		h     api.Hit
		in    bool
		worst int
		full  bool
		list  hits
	}{
		{h(5, 1), true, 0, false, hits{h(5, 1)}},
		{h(3, 9), true, 5, true, hits{h(3, 9), h(5, 1)}},
		{h(5, 0), true, 5, true, hits{h(3, 9), h(5, 0)}},
		{h(5, 1), false, 5, true, hits{h(3, 9), h(5, 0)}},
		{h(5, 0), true, 5, true, hits{h(3, 9), h(5, 0)}},
		{h(2, 7), true, 3, true, hits{h(2, 7), h(3, 9)}},
		{h(5, 0), false, 3, true, hits{h(2, 7), h(3, 9)}},
	} {
		if in := top.Add(c.h); in != c.in {
			t.Errorf("10.2: Add(%s) is %v, want %v", told(c.h), in, c.in)
		}
		tells(t, "behind "+told(c.h), top, c.worst, c.full, c.list)
	}
	two := newTop(t, 2)
	if !two.Add(coded(3, 9, "a")) || !two.Add(coded(3, 9, "b")) {
		t.Errorf("10.2: two hits that are unlike in their codes alone are not both kept")
	}
	tells(t, "unlike codes", two, 3, true, hits{coded(3, 9, "a"), coded(3, 9, "b")})
	ball := newBall(t, 3)
	for _, c := range []struct {
		h  api.Hit
		in bool
	}{{h(3, 1), true}, {h(4, 0), false}, {h(3, 0), true}, {h(3, 1), true}} {
		if in := ball.Add(c.h); in != c.in {
			t.Errorf("10.5: Add(%s) is %v, want %v", told(c.h), in, c.in)
		}
	}
	if got := ball.List(); !slices.Equal(got, hits{h(3, 0), h(3, 1)}) {
		t.Errorf("10.5: List is %s", told(got))
	}
	lists := []hits{{h(5, 1), h(3, 9)}, {h(3, 9), h(4, 2)}}
	if got := first(t, 2, lists...); !slices.Equal(got, hits{h(3, 9), h(4, 2)}) {
		t.Errorf("10.6: First of two is %s", told(got))
	}
	if got := first(t, 0, lists...); len(got) > 0 {
		t.Errorf("10.6: First of none is %s", told(got))
	}
	if got := first(t, 9); len(got) > 0 {
		t.Errorf("10.6: First of no lists is %s", told(got))
	}
}

func TestRefusals(t *testing.T) {
	numbers := []int{math.MinInt, math.MinInt + 1, -1 << 32, -4097, -4096, -1025, -1024, -2, -1, 0, 1, 2, 1023, 1024, 1025, 1026, 4095, 4096, 4097, 4098, 65536, 1 << 32, 1<<32 + 1, 1<<48 + 1, 1<<63 - 4096, math.MaxInt}
	for _, n := range numbers {
		wantK, wantR := api.ErrK, api.ErrRadius
		if n >= 0 && n <= 4096 {
			wantK = api.OK
		}
		if n >= 0 && n <= 1024 {
			wantR = api.OK
		}
		if top, e := best.NewTop(n); e != wantK || (top != nil) != (wantK == api.OK) {
			t.Errorf("10.1: NewTop(%d) is %v, %d, want %d", n, top, e, wantK)
		}
		if ball, e := best.NewBall(n); e != wantR || (ball != nil) != (wantR == api.OK) {
			t.Errorf("10.5: NewBall(%d) is %v, %d, want %d", n, ball, e, wantR)
		}
		for _, lists := range [][]hits{nil, {}, {nil}, {{h(1, 1)}}, {nil, {h(1, 1)}, {h(1, 1)}}} {
			var want hits
			if wantK == api.OK {
				want = firstOf(n, lists...)
			}
			if got, e := best.First(n, lists); e != wantK || !slices.Equal(got, want) {
				t.Errorf("10.6: First(%d, %s) is %s, %d, want %s, %d", n, told(lists), told(got), e, told(want), wantK)
			}
		}
	}
}

// TestOrder: all hits that are like in parts are told by Dist, then ID, then Code, by top, ball and First.
func TestOrder(t *testing.T) {
	var want hits
	for _, dist := range []int{math.MinInt, -5, -1, 0, 1, 1024} {
		for _, id := range []int{math.MinInt, -1, 0, 9, 10, math.MaxInt} {
			for _, code := range []string{"", "\x00", "\x00\x00", "\x00a", "B", "a", "aa", "ab", "b", "\x7f", "\x80", "\xc3\xa9", "\xff", "\xff\x00"} {
				want = append(want, coded(dist, id, code))
			}
		}
	}
	s := sample.From(1)
	for round := range 5 {
		given := shuffled(s, want)
		top, ball := newTop(t, len(want)), newBall(t, 1024)
		for _, x := range given {
			if !top.Add(x) || !ball.Add(x) {
				t.Fatalf("10.2, 10.5: %s is not kept where there is room", told(x))
			}
		}
		for name, got := range map[string]hits{"a top's List": top.List(), "a ball's List": ball.List(), "First": first(t, len(want)+1, given)} {
			if !slices.Equal(got, want) {
				t.Fatalf("round %d: %s is not in order: %s", round, name, told(got))
			}
		}
		for k := 0; k <= len(want); k += 1 + k/3 {
			if got := first(t, k, given); !slices.Equal(got, want[:k]) {
				t.Fatalf("10.6: round %d: First(%d, ..) is %s, want %s", round, k, told(got), told(want[:k]))
			}
		}
	}
}

// TestTopAgainstModel: behind each hit a top answers as the model does.
func TestTopAgainstModel(t *testing.T) {
	for seed := range 300 {
		s := sample.From(seed)
		k := []int{0, 1, 2, 3, 4, 5, 7, 8, 16, 40}[s.Below(10)]
		row := few(s, 60)
		if seed%2 == 1 {
			row = mixed(s, 60)
		}
		top := newTop(t, k)
		var given hits
		for _, x := range row {
			given = unlike(given, hits{x})
			kept := firstOf(k, given)
			if in, want := top.Add(x), slices.Contains(kept, x); in != want {
				t.Fatalf("10.2: seed %d, k %d: Add(%s) is %v, want %v, behind %s", seed, k, told(x), in, want, told(given))
			}
			worst, full := worstOf(k, kept)
			tells(t, "made up", top, worst, full, kept)
		}
	}
}

// TestHandedInAgain: each hit of a full top is kept still, and each that was pushed out is not.
func TestHandedInAgain(t *testing.T) {
	s := sample.From(2)
	for _, k := range []int{1, 2, 3, 10, 33} {
		given := unlike(mixed(s, 100))
		top := newTop(t, k)
		for _, x := range shuffled(s, given) {
			top.Add(x)
		}
		worst, full := worstOf(k, firstOf(k, given))
		for round := range 2 {
			for i, x := range shuffled(s, given) {
				if in, want := top.Add(x), slices.Index(given, x) < k; in != want {
					t.Fatalf("10.2: k %d, round %d, hit %d: Add again is %v, want %v", k, round, i, in, want)
				}
			}
			tells(t, "handed in again", top, worst, full, given[:k])
		}
	}
}

// TestTopOfMany: the greatest k, with more hits than that, from each side.
func TestTopOfMany(t *testing.T) {
	const n = 3 * api.MaxK
	for _, k := range []int{1, 1000, api.MaxK - 1, api.MaxK} {
		for name, dist := range map[string]func(i int) int{
			"falling": func(i int) int { return n - 1 - i },
			"rising":  func(i int) int { return i },
			"mixed":   func(i int) int { return i * 7 % n },
		} {
			top := newTop(t, k)
			for i := range n {
				top.Add(h(dist(i), 1))
				if worst, full := top.Worst(); full != (i+1 >= k) || !full && worst != 0 {
					t.Fatalf("10.3: %s, k %d: behind %d hits Worst is %d, %v", name, k, i+1, worst, full)
				}
			}
			var want hits
			for d := range k {
				want = append(want, h(d, 1))
			}
			tells(t, name, top, k-1, true, want)
		}
	}
}

// TestBallAgainstModel: behind each hit a ball answers as the model does.
func TestBallAgainstModel(t *testing.T) {
	for seed := range 200 {
		s := sample.From(1000 + seed)
		r := []int{0, 1, 2, 3, 63, 64, 1023, 1024}[s.Below(8)]
		row := few(s, 60)
		if seed%2 == 1 {
			row = mixed(s, 60)
		}
		ball := newBall(t, r)
		var given hits
		for _, x := range row {
			given = unlike(given, hits{x})
			want := within(r, given)
			if in := ball.Add(x); in != slices.Contains(want, x) {
				t.Fatalf("10.5: seed %d, r %d: Add(%s) is %v", seed, r, told(x), in)
			}
			for range 2 {
				if got := ball.List(); !slices.Equal(got, want) {
					t.Fatalf("10.5: seed %d, r %d: List is %s, want %s", seed, r, told(got), told(want))
				}
			}
		}
	}
}

// TestBallOfMany: a ball has no bound but its distance.
func TestBallOfMany(t *testing.T) {
	ball := newBall(t, 10)
	var want hits
	const n = 100000
	for i := range n {
		want = append(want, h(i*11/n, i))
		if !ball.Add(h((n-1-i)*11/n, n-1-i)) {
			t.Fatalf("10.5: hit %d is not kept", i)
		}
		if ball.Add(h(11, i)) {
			t.Fatalf("10.5: a hit beyond 10 is kept")
		}
	}
	if got := ball.List(); !slices.Equal(got, want) {
		t.Fatalf("10.5: a ball of %d has %d", n, len(got))
	}
}

// TestFirstAgainstModel: lists in no order, of which some are empty, some the same.
func TestFirstAgainstModel(t *testing.T) {
	for seed := range 300 {
		s := sample.From(2000 + seed)
		var lists []hits
		for range s.Below(6) {
			list := few(s, s.Below(20))
			if seed%2 == 1 {
				list = mixed(s, s.Below(20))
			}
			lists = append(lists, list)
			if s.Below(4) == 0 {
				lists = append(lists, list, nil)
			}
		}
		for _, k := range []int{0, 1, 2, 5, 20, 100, api.MaxK} {
			if got, want := first(t, k, lists...), firstOf(k, lists...); !slices.Equal(got, want) {
				t.Fatalf("10.6: seed %d: First(%d, %s) is %s, want %s", seed, k, told(lists), told(got), told(want))
			}
		}
	}
}

// TestOrderOfAddingDoesNotCount: neither does how often, nor into which lists the hits are parted.
func TestOrderOfAddingDoesNotCount(t *testing.T) {
	for seed := range 100 {
		s := sample.From(3000 + seed)
		k := s.Below(12)
		row := mixed(s, 40)
		want := firstOf(k, row)
		worst, full := worstOf(k, want)
		for range 3 {
			top := newTop(t, k)
			for _, x := range shuffled(s, slices.Concat(row, row[:s.Below(40)], row[s.Below(40):])) {
				top.Add(x)
			}
			tells(t, "10.7", top, worst, full, want)
		}
		var parts, firsts []hits
		for rest := shuffled(s, row); len(rest) > 0; {
			n := 1 + s.Below(len(rest))
			parts = append(parts, rest[:n])
			firsts = append(firsts, first(t, k, rest[:n]))
			rest = rest[n:]
		}
		if got := first(t, k, parts...); !slices.Equal(got, want) {
			t.Fatalf("10.7: seed %d: First of %d parts is %s, want %s", seed, len(parts), told(got), told(want))
		}
		if got := first(t, k, firsts...); !slices.Equal(got, want) {
			t.Fatalf("10.7: seed %d: First of %d Firsts is %s, want %s", seed, len(parts), told(got), told(want))
		}
	}
}

// TestWorstNeverRises: and who leaves out all that are above it misses nothing.
func TestWorstNeverRises(t *testing.T) {
	for seed := range 100 {
		s := sample.From(4000 + seed)
		k := s.Below(9)
		row := mixed(s, 80)
		top, sparing := newTop(t, k), newTop(t, k)
		before, was := top.Worst()
		for i, x := range row {
			in := top.Add(x)
			if was && x.Dist > before && in {
				t.Fatalf("10.8: seed %d: %s is kept, above Worst, %d", seed, told(x), before)
			}
			worst, full := top.Worst()
			if was && (!full || worst > before) {
				t.Fatalf("10.8: seed %d, hit %d: Worst was %d, and is %d, %v", seed, i, before, worst, full)
			}
			before, was = worst, full
			if bound, bounded := sparing.Worst(); !bounded || x.Dist <= bound {
				sparing.Add(x)
			}
		}
		if got, want := sparing.List(), top.List(); !slices.Equal(got, want) {
			t.Fatalf("10.8: seed %d: with what is above Worst left out %s, want %s", seed, told(got), told(want))
		}
	}
}

// TestBallAndTop: a ball's List begins with a top's, less what is beyond r.
func TestBallAndTop(t *testing.T) {
	for seed := range 100 {
		s := sample.From(5000 + seed)
		k, r := s.Below(60), []int{0, 1, 3, 64, 1024}[s.Below(5)]
		top, ball := newTop(t, k), newBall(t, r)
		for _, x := range mixed(s, 50) {
			top.Add(x)
			ball.Add(x)
		}
		near := slices.DeleteFunc(top.List(), func(x api.Hit) bool { return x.Dist > r })
		all := ball.List()
		if len(all) < len(near) || !slices.Equal(all[:len(near)], near) {
			t.Fatalf("10.9: seed %d, k %d, r %d: the ball has %s, the top within r %s", seed, k, r, told(all), told(near))
		}
		for _, x := range all {
			if x.Dist > r {
				t.Fatalf("10.9: seed %d: a ball of %d has %s", seed, r, told(x))
			}
		}
	}
}

// live is how many bytes the program holds.
func live() int {
	runtime.GC()
	runtime.GC()
	var m runtime.MemStats
	runtime.ReadMemStats(&m)
	return int(m.HeapAlloc)
}

// TestNoMemoryBeside: hits that are pushed out, or never kept, are not held, nor is room for them.
func TestNoMemoryBeside(t *testing.T) {
	const k, n = 500, 500*600 - 1
	for _, length := range []int{8, 2048} {
		top := newTop(t, k)
		before, full := live(), 0
		for i := range n {
			// Each comes ahead of all others, so each is kept for a while; its code is a piece of a greater text.
			text := strings.Repeat(string(rune('a'+i%26)), 4096)
			if !top.Add(coded(n-i, i, text[:length])) {
				t.Fatalf("10.2: hit %d is not kept", i)
			}
			if i == k-1 {
				full = live() - before
			}
		}
		if full > k*(400+length) {
			t.Errorf("10.4: a top of %d holds %d bytes behind so many hits", k, full)
		}
		if grown := live() - before; grown > full*3/2 {
			t.Errorf("10.4: a top of %d held %d bytes when it was full, and %d behind %d hits", k, full, grown, n)
		}
		for i := range n {
			if top.Add(coded(n+i, i, "beyond")) {
				t.Fatalf("10.2: hit %d from the end on is kept", i)
			}
		}
		if grown := live() - before; grown > full*3/2 {
			t.Errorf("10.4: a top of %d held %d bytes when it was full, and %d behind %d hits beyond", k, full, grown, n)
		}
		if worst, ok := top.Worst(); worst != k || !ok {
			t.Errorf("10.3: Worst is %d, %v", worst, ok)
		}
		far, again := h(n+1, 1), top.List()[0]
		if made := testing.AllocsPerRun(100, func() { top.Add(far); top.Add(again) }); made > 0 {
			t.Errorf("10.4: a hit that changes nothing costs %v pieces of memory", made)
		}
	}
}

// TestTextsAreNotKept: what a code's bytes become behind a call changes nothing.
func TestTextsAreNotKept(t *testing.T) {
	one, other := []byte("code one"), []byte("code two")
	given := hits{coded(1, 1, loose(one)), coded(1, 1, loose(other))}
	want := hits{coded(1, 1, "code one"), coded(1, 1, "code two")}
	top, ball := newTop(t, 2), newBall(t, 1)
	for _, x := range given {
		top.Add(x)
		ball.Add(x)
		top.Add(x)
		ball.Add(x)
	}
	list := first(t, 2, given)
	for i := range one {
		one[i], other[i] = 'x', 'y'
	}
	tells(t, "R4: behind a change of the codes", top, 1, true, want)
	for name, got := range map[string]hits{"a ball's List": ball.List(), "First": list} {
		if !slices.Equal(got, want) {
			t.Errorf("R4: behind a change of the codes %s is %s", name, told(got))
		}
	}
	for _, x := range want {
		if !top.Add(x) || !ball.Add(x) {
			t.Errorf("R4: %s is not kept any more", told(x))
		}
	}
	if len(top.List()) != 2 || len(ball.List()) != 2 {
		t.Errorf("R4: a hit that is kept was taken for another")
	}
}

// spoil writes over a list and its spare room.
func spoil(list hits) {
	list = list[:cap(list)]
	for i := range list {
		list[i] = h(-99, -99)
	}
}

// TestListsAreNewMemory: an answer can be written over.
func TestListsAreNewMemory(t *testing.T) {
	row := mixed(sample.From(3), 50)
	for _, k := range []int{1, 2, 5, 9, 100} {
		top, ball := newTop(t, k), newBall(t, 64)
		for i, x := range row {
			top.Add(x)
			ball.Add(x)
			kept, near := firstOf(k, row[:i+1]), within(64, row[:i+1])
			a, b := top.List(), ball.List()
			spoil(top.List())
			spoil(ball.List())
			if !slices.Equal(a, kept) || !slices.Equal(top.List(), kept) {
				t.Fatalf("10.3: k %d: a top's List is not new memory", k)
			}
			if !slices.Equal(b, near) || !slices.Equal(ball.List(), near) {
				t.Fatalf("10.5: a ball's List is not new memory")
			}
		}
	}
}

// TestListsAreNotTouched: First changes neither a list nor its spare room, looks at no spare room, and shares no memory with a list.
func TestListsAreNotTouched(t *testing.T) {
	room := hits{h(9, 1), h(3, 1), h(3, 1), h(0, 0), h(0, 1)}
	was := slices.Clone(room)
	lists := make([]hits, 2, 3)
	lists[0], lists[1] = room[:3], room[1:2]
	lists[:3][2] = room
	for _, k := range []int{0, 1, 2, 3, 9} {
		got := first(t, k, lists...)
		if want := (hits{h(3, 1), h(9, 1)})[:min(k, 2)]; !slices.Equal(got, want) {
			t.Errorf("10.6: First(%d, ..) is %s, want %s", k, told(got), told(want))
		}
		spoil(got)
		if !slices.Equal(room, was) || len(lists[0]) != 3 || len(lists[1]) != 1 {
			t.Fatalf("10.6: First(%d, ..) has changed what it was handed: %s", k, told(room))
		}
	}
	one := hits{h(1, 1), h(2, 2)}
	got := first(t, 9, one)
	one[0], one[1] = h(7, 7), h(8, 8)
	if !slices.Equal(got, hits{h(1, 1), h(2, 2)}) {
		t.Errorf("10.6: First's answer shares memory with a list")
	}
}

// TestSeveralAtATime: tops and balls keep nothing for each other.
func TestSeveralAtATime(t *testing.T) {
	a, b, c, d := newTop(t, 2), newTop(t, 2), newBall(t, 5), newBall(t, 5)
	a.Add(h(1, 1))
	c.Add(h(2, 2))
	tells(t, "beside a filled one", b, 0, false, nil)
	if len(d.List()) > 0 {
		t.Errorf("10.5: a new ball has %s", told(d.List()))
	}
	b.Add(h(3, 3))
	d.Add(h(4, 4))
	tells(t, "one of two", a, 0, false, hits{h(1, 1)})
	tells(t, "the other one", b, 0, false, hits{h(3, 3)})
	if !slices.Equal(c.List(), hits{h(2, 2)}) || !slices.Equal(d.List(), hits{h(4, 4)}) {
		t.Errorf("10.5: two balls have %s and %s", told(c.List()), told(d.List()))
	}
}

// TestNobody: what was never made keeps nothing, and no call on it panics.
func TestNobody(t *testing.T) {
	for name, top := range map[string]*best.Top{"a nil top": nil, "an unmade top": {}} {
		if top.Add(h(0, 0)) || top.Add(h(-1, -1)) {
			t.Errorf("R1: %s keeps a hit", name)
		}
		tells(t, name, top, 0, false, nil)
	}
	for name, ball := range map[string]*best.Ball{"a nil ball": nil, "an unmade ball": {}} {
		if ball.Add(h(0, 0)) || ball.Add(h(-1, -1)) || len(ball.List()) > 0 {
			t.Errorf("R1: %s keeps a hit", name)
		}
	}
}
