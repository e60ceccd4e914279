package shards_test

import (
	"fmt"
	"math"
	"slices"
	"strings"
	"testing"

	"kindred/api"
	"kindred/disk"
	"kindred/engine"
	"kindred/internal/sample"
	"kindred/keep"
	"kindred/shards"
)

// refusesNew: New answers this, and shards just with OK.
func refusesNew(t *testing.T, what string, want api.Errno, list ...*engine.Engine) {
	t.Helper()
	s, f := shards.New(list)
	if f != want || (s != nil) != (want == api.OK) {
		t.Errorf("21.2: %s: New answers %v, %d, want %d", what, s, f, want)
	}
}

func TestExamples(t *testing.T) {
	for _, o := range optsOf(64) {
		for _, p := range optsOf(64) {
			a, b := storeOf(t, o), storeOf(t, p)
			refusesNew(t, "none", api.ErrEmpty)
			refusesNew(t, "one twice", api.ErrTwice, a.e, a.e)
			refusesNew(t, "another width", api.ErrWidth, a.e, storeOf(t, api.Opts{Width: 128, Mode: api.Treed}).e)
			answers(t, "17.4: Insert", a.e.Insert(3, z(0)), api.OK)
			refusesNew(t, "a stray", api.ErrStray, a.e, b.e)
			refusesNew(t, "no stray", api.OK, b.e, a.e)
			answers(t, "17.4: Delete", a.e.Delete(3), api.OK)
			checkExamples(t, a, b)
		}
	}
	refusesNew(t, "65 engines", api.ErrMany, enginesOf(storesOf(t, 64, 65)...)...)
}

func checkExamples(t *testing.T, a, b *store) {
	t.Helper()
	s := shardsOf(t, a, b)
	answers(t, "21.3: Insert", s.Insert(4, z(0)), api.OK)
	answers(t, "21.3: Insert", s.Insert(5, z(0)), api.OK)
	answers(t, "21.3: Insert", s.Insert(7, z(1)), api.OK)
	answers(t, "21.3: Insert of one that lives", s.Insert(4, z(1)), api.ErrTwice)
	answers(t, "21.3: Insert of -1", s.Insert(-1, z(0)), api.ErrID)
	if a.e.Count() != 1 || b.e.Count() != 2 || s.Count() != 3 {
		t.Fatalf("21.5: %d and %d are %d", a.e.Count(), b.e.Count(), s.Count())
	}
	checkGet(t, "Get", s, 5, z(0), api.OK)
	checkGet(t, "Get", s, 6, "", api.ErrGone)
	four, five, seven := api.Hit{ID: 4, Code: z(0)}, api.Hit{ID: 5, Code: z(0)}, api.Hit{Dist: 1, ID: 7, Code: z(1)}
	checkSearches(t, "two", s, z(0), 2, -1, []api.Hit{four, five}, api.OK)
	checkSearches(t, "all", s, z(0), 9, -1, []api.Hit{four, five, seven}, api.OK)
	checkSearches(t, "near to 3", s, z(3), -1, 1, []api.Hit{seven}, api.OK)
	_, f := s.TopK(z(0), -1)
	answers(t, "21.4: TopK of -1", f, api.ErrK)
	_, f = s.Radius(z(0), 65)
	answers(t, "21.4: Radius of 65", f, api.ErrRadius)
	checkSearches(t, "no code", s, "x", 1, 1, nil, api.ErrCode)
	answers(t, "17.3: Close", a.e.Close(), api.OK)
	checkSearches(t, "one is closed", s, z(0), 1, 1, nil, api.ErrClosed)
	checkGet(t, "the other one's", s, 5, z(0), api.OK)
	checkGet(t, "a closed one's", s, 4, "", api.ErrClosed)
	answers(t, "21.5: Sync", s.Sync(), api.ErrClosed)
	if b.e.Synced() != 2 || s.Count() != 3 {
		t.Errorf("21.5: the engine that is not closed is synced up to %d; Count is %d", b.e.Synced(), s.Count())
	}
}

func checkGet(t *testing.T, what string, s *shards.Shards, id int, code string, refusal api.Errno) {
	t.Helper()
	if got, f := s.Get(id); got != code || f != refusal {
		t.Fatalf("21.3: %s: Get(%d): %x, %d, want %x, %d", what, id, got, f, code, refusal)
	}
}

// checkSearches asks TopK, if k is not below 0, and Radius, if r is not.
func checkSearches(t *testing.T, what string, s *shards.Shards, q string, k, r int, want []api.Hit, refusal api.Errno) {
	t.Helper()
	if hits, f := s.TopK(q, k); k >= 0 && (f != refusal || !slices.Equal(hits, want)) {
		t.Fatalf("21.4: %s: TopK(%x, %d): %s, %d, want %s, %d", what, q, k, told(hits), f, told(want), refusal)
	}
	if hits, f := s.Radius(q, r); r >= 0 && (f != refusal || !slices.Equal(hits, want)) {
		t.Fatalf("21.4: %s: Radius(%x, %d): %s, %d, want %s, %d", what, q, r, told(hits), f, told(want), refusal)
	}
}

// TestRefusalsOfNew: whatever is wrong at one time, the first reason in the chapter's order is told.
func TestRefusalsOfNew(t *testing.T) {
	o, treed := optsOf(64)[0], optsOf(64)[1]
	pair := func(id int) api.Pair { return api.Pair{ID: id, Code: z(9)} }
	even, odd := storeOf(t, o, pair(0), pair(2), pair(1<<48)), storeOf(t, treed, pair(1), pair(1<<48-1))
	both := storeOf(t, treed, pair(0), pair(1))
	wide := storeOf(t, api.Opts{Width: 128, Mode: api.Treed})
	closed, strayClosed, wideClosed := storeOf(t, o, pair(0)), storeOf(t, o, pair(0), pair(1)), storeOf(t, wide.e.Opts())
	for _, s := range []*store{closed, strayClosed, wideClosed} {
		s.e.Close()
	}
	off, crashed, both2 := storeOf(t, treed, pair(1)), storeOf(t, o, pair(1)), storeOf(t, o, pair(1))
	off.cutOff()
	crashed.d.Crash(nil)
	both2.d.Crash(nil)
	both2.e.Close()
	lots := enginesOf(storesOf(t, 64, 65)...)
	for _, c := range []struct {
		what string
		list []*engine.Engine
		want api.Errno
	}{
		{"no list", nil, api.ErrEmpty},
		{"a list of none", []*engine.Engine{}, api.ErrEmpty},
		{"65", lots, api.ErrMany},
		{"64", lots[:64], api.OK},
		{"65, the last one there twice", append(slices.Clone(lots[:64]), lots[0]), api.ErrMany},
		{"65, one of another width", append(slices.Clone(lots[:64]), wide.e), api.ErrMany},
		{"64, the last one the first again", append(slices.Clone(lots[:63]), lots[0]), api.ErrTwice},
		{"64, the last two the same", append(slices.Clone(lots[:63]), lots[62]), api.ErrTwice},
		{"64, the last one of another width", append(slices.Clone(lots[:63]), wide.e), api.ErrWidth},
		{"one of another width, and then one twice", []*engine.Engine{even.e, wide.e, even.e}, api.ErrTwice},
		{"a closed one twice", []*engine.Engine{closed.e, closed.e}, api.ErrTwice},
		{"a stray, and one twice", []*engine.Engine{odd.e, even.e, even.e}, api.ErrTwice},
		{"the first closed, another width", []*engine.Engine{closed.e, wide.e}, api.ErrWidth},
		{"the first a closed one of another width", []*engine.Engine{wideClosed.e, even.e}, api.ErrWidth},
		{"a stray, and then another width", []*engine.Engine{odd.e, wide.e}, api.ErrWidth},
		{"no power, another width", []*engine.Engine{off.e, wide.e}, api.ErrWidth},
		{"two that go", []*engine.Engine{even.e, odd.e}, api.OK},
		{"two in the wrong order", []*engine.Engine{odd.e, even.e}, api.ErrStray},
		{"one alone", []*engine.Engine{both.e}, api.OK},
		{"one stray of two, in the first", []*engine.Engine{both.e, odd.e}, api.ErrStray},
		{"one stray of two, in the last", []*engine.Engine{even.e, both.e}, api.ErrStray},
		{"the first closed, with a stray", []*engine.Engine{strayClosed.e, odd.e}, api.ErrClosed},
		{"the first closed, then a stray", []*engine.Engine{closed.e, both.e}, api.ErrClosed},
		{"a stray, then a closed one", []*engine.Engine{both.e, closed.e}, api.ErrStray},
		{"the last closed", []*engine.Engine{even.e, closed.e}, api.ErrClosed},
		{"the last without power", []*engine.Engine{even.e, off.e}, api.ErrDown},
		{"the last given up", []*engine.Engine{even.e, crashed.e}, api.ErrDown},
		{"given up and closed", []*engine.Engine{even.e, both2.e}, api.ErrClosed},
		{"no power, then closed", []*engine.Engine{off.e, closed.e}, api.ErrDown},
		{"closed, then no power", []*engine.Engine{closed.e, off.e}, api.ErrClosed},
		{"a stray, then no power", []*engine.Engine{both.e, crashed.e}, api.ErrStray},
	} {
		refusesNew(t, c.what, c.want, c.list...)
	}
}

// TestStrayAmongMany: one pair more that is where it belongs or not, wherever it stands among its engine's.
func TestStrayAmongMany(t *testing.T) {
	for _, stray := range []int{0, 1, 3000, 3001, 1<<48 - 2, 1<<48 - 1, 1 << 48} {
		list := storesOf(t, 64, 3)
		for id := 2; id < 6000; id += 3 {
			answers(t, "17.4: Insert", list[2].e.Insert(id, number(id)), api.OK)
		}
		refusesNew(t, "no stray", api.OK, enginesOf(list...)...)
		answers(t, "17.4: Insert", list[2].e.Insert(stray, z(0)), api.OK)
		want := api.ErrStray
		if stray%3 == 2 {
			want = api.OK
		}
		refusesNew(t, fmt.Sprint(stray, " in engine 2"), want, enginesOf(list...)...)
		refusesNew(t, fmt.Sprint(stray, " in engine 2, the others the other way round"), want, list[1].e, list[0].e, list[2].e)
		refusesNew(t, "none of them belongs to 1", api.ErrStray, list[0].e, list[2].e, list[1].e)
	}
}

// TestListIsNotKept: what becomes of the list behind New is not seen, and New changes nothing of it.
func TestListIsNotKept(t *testing.T) {
	stores, other := storesOf(t, 64, 3), storeOf(t, optsOf(64)[0], api.Pair{ID: 5, Code: z(0)})
	room := append(enginesOf(stores...), other.e, nil)
	list := room[:3]
	s, f := shards.New(list)
	answers(t, "21.2: New", f, api.OK)
	if !slices.Equal(room, append(enginesOf(stores...), other.e, nil)) {
		t.Fatalf("R4: New has changed the list, or its spare room")
	}
	for i := range room {
		room[i] = other.e
	}
	for id := range 9 {
		answers(t, "21.3: Insert", s.Insert(id, z(byte(id))), api.OK)
	}
	if s.Count() != 9 || other.e.Count() != 1 || stores[1].e.Count() != 3 {
		t.Errorf("R4: the list is kept: %d, %d, %d", s.Count(), other.e.Count(), stores[1].e.Count())
	}
}

// TestBelongs: every update goes to the engine of number id mod n, and to no other.
func TestBelongs(t *testing.T) {
	for _, n := range []int{1, 2, 3, 7, 63, 64} {
		stores := storesOf(t, 64, n)
		s := shardsOf(t, stores...)
		for _, id := range []int{0, 1, 2, 3, 62, 63, 64, 65, 127, 128, 1 << 32, 1<<32 + 1, 1<<48 - 1, 1 << 48} {
			home := id % n
			was := seqs(stores)
			answers(t, "21.3: Insert", s.Insert(id, z(1)), api.OK)
			checkGet(t, "Insert", s, id, z(1), api.OK)
			if code, f := stores[home].e.Get(id); code != z(1) || f != api.OK {
				t.Fatalf("21.1: %d of %d: engine %d has %x, %d", id, n, home, code, f)
			}
			was[home]++
			if !slices.Equal(seqs(stores), was) {
				t.Fatalf("21.3: Insert of %d of %d has made the updates %v, want %v", id, n, seqs(stores), was)
			}
			answers(t, "21.3: Delete", s.Delete(id), api.OK)
			answers(t, "21.3: Delete again", s.Delete(id), api.ErrGone)
			answers(t, "21.3: Insert again", s.Insert(id, z(2)), api.OK)
			was[home] += 2
			if !slices.Equal(seqs(stores), was) {
				t.Fatalf("21.3: Delete of %d of %d has made the updates %v, want %v", id, n, seqs(stores), was)
			}
		}
	}
}

func seqs(stores []*store) []int {
	var list []int
	for _, s := range stores {
		list = append(list, s.e.Seq())
	}
	return list
}

// TestIDsThatNoPairHas: below 0 they are engine 0's to refuse, above MaxID that of their number's.
func TestIDsThatNoPairHas(t *testing.T) {
	for _, id := range []int{-1, -2, -3, -4, -64, math.MinInt, math.MinInt + 1, 1<<48 + 1, 1<<48 + 2, 1<<48 + 3, math.MaxInt, math.MaxInt - 1} {
		for closed := range 3 {
			stores := storesOf(t, 64, 3)
			s := shardsOf(t, stores...)
			want := api.ErrID
			if home := max(id, 0) % 3; home == closed {
				want = api.ErrClosed
			}
			stores[closed].e.Close()
			answers(t, fmt.Sprintf("21.1: Insert(%d), engine %d closed", id, closed), s.Insert(id, z(0)), want)
			answers(t, fmt.Sprintf("21.1: Delete(%d), engine %d closed", id, closed), s.Delete(id), want)
			checkGet(t, fmt.Sprintf("engine %d closed", closed), s, id, "", want)
		}
	}
}

// TestAsOne (21.6): made-up calls, with compactions and openings between, on shards and on one engine of each mode.
func TestAsOne(t *testing.T) {
	for i, c := range []struct{ w, n, calls int }{{64, 1, 300}, {64, 2, 500}, {64, 3, 500}, {128, 5, 400}, {192, 7, 300}, {1024, 2, 200}, {64, 64, 500}} {
		g := maker{sample.From(i), c.w}
		m := manyOf(t, c.w, c.n)
		for call := range c.calls {
			g.call(m)
			if call%100 == 99 {
				m.reopen()
				m.apart()
			}
		}
		m.sync()
		for range 30 {
			m.topK(g.code(), g.k())
			m.radius(g.code(), g.r())
			m.get(g.id())
		}
		m.count()
		m.apart()
	}
}

// TestTies: hits of one distance stand by their ids, whichever engines have them, and a k may end among them.
func TestTies(t *testing.T) {
	for _, n := range []int{2, 3, 5} {
		m := manyOf(t, 64, n)
		for i := range 40 {
			m.insert(i*17%40, []string{z(0), z(1), z(2), z(3), z(0x80)}[i%5])
		}
		for k := range 43 {
			m.topK(z(0), k)
			m.topK(z(1), k)
		}
		for r := range 5 {
			m.radius(z(0), r)
			m.radius(z(2), r)
		}
	}
}

// TestOneEngineHasThemAll: all of the nearest stand in one engine, the others being empty or far.
func TestOneEngineHasThemAll(t *testing.T) {
	for home := range 4 {
		m := manyOf(t, 64, 4)
		for i := range 20 {
			m.insert(4*i+home, number(i))
		}
		m.topK(number(0), 7)
		m.topK(number(0), 30)
		m.radius(number(5), 2)
		for i := range 20 {
			m.insert(4*i+(home+1)%4, strings.Repeat("\xff", 4)+number(i)[4:])
		}
		m.topK(number(0), 7)
		m.topK(number(0), 30)
		m.radius(number(5), 2)
		m.radius(number(5), 64)
	}
}

// TestMany: more pairs than a search for the nearest can ask for, and more than a message holds.
func TestMany(t *testing.T) {
	const pairs = 70000
	stores := storesOf(t, 64, 3)
	s := shardsOf(t, stores...)
	all := map[int]string{}
	for id := range pairs {
		all[id] = number(id % 5000)
		answers(t, "21.3: Insert", s.Insert(id, all[id]), api.OK)
	}
	want := looked(all, number(77))
	for _, k := range []int{1, 4095, 4096} {
		hits, f := s.TopK(number(77), k)
		hitsAre(t, fmt.Sprint("TopK of ", k), hits, f, want[:k])
	}
	_, f := s.TopK(number(77), 4097)
	answers(t, "21.4: TopK of 4097", f, api.ErrK)
	for _, r := range []int{0, 3, 64} {
		hits, f := s.Radius(number(77), r)
		hitsAre(t, fmt.Sprint("Radius of ", r), hits, f, within(want, r))
	}
	if s.Count() != pairs {
		t.Errorf("21.5: Count is %d", s.Count())
	}
}

// full is an engine with MaxPairs pairs: 2, 4, 6 ..
func full(t *testing.T, o api.Opts) *engine.Engine {
	t.Helper()
	d := disk.New(1 << 28)
	k, f := keep.Create(d, o)
	answers(t, "15.4: Create", f, api.OK)
	list := make([]api.Pair, 1<<20)
	for i := range list {
		list[i] = api.Pair{ID: 2 + 2*i, Code: number(i % 1000)}
	}
	answers(t, "15.14: Reset", k.Reset(1<<20, list), api.OK)
	e, f := engine.Open(d)
	answers(t, "17.1: Open", f, api.OK)
	return e
}

// TestMostPairs: MaxPairs together, one more, and the last of so many a stray.
func TestMostPairs(t *testing.T) {
	all, none := full(t, optsOf(64)[1]), storeOf(t, optsOf(64)[0]).e
	s, f := shards.New([]*engine.Engine{all, none})
	answers(t, "21.2: New", f, api.OK)
	if s.Count() != 1<<20 {
		t.Errorf("21.5: Count is %d, want %d", s.Count(), 1<<20)
	}
	hits, f := s.TopK(number(999), 2)
	hitsAre(t, "MaxPairs together", hits, f, []api.Hit{{ID: 2000, Code: number(999)}, {ID: 4000, Code: number(999)}})
	answers(t, "21.3: Insert of one that lives", s.Insert(2000, z(0)), api.ErrTwice)
	answers(t, "21.3: Insert where there are MaxPairs", s.Insert(0, z(0)), api.ErrMany)
	// Whether there is room for one more its own engine says.
	answers(t, "21.3: Insert where there are none", s.Insert(1, number(999)), api.OK)
	hits, f = s.TopK(number(999), 2)
	hitsAre(t, "one more", hits, f, []api.Hit{{ID: 1, Code: number(999)}, {ID: 2000, Code: number(999)}})
	answers(t, "21.3: Delete", s.Delete(2), api.OK)
	answers(t, "17.4: Insert", all.Insert(1<<40+1, z(0)), api.OK)
	refusesNew(t, "MaxPairs, the last one a stray", api.ErrStray, all, none)
	refusesNew(t, "MaxPairs of one engine alone", api.OK, all)
}

// TestEngineFullOfWords: an engine that waits for compaction says so, and the others go on.
func TestEngineFullOfWords(t *testing.T) {
	stores := storesOf(t, 64, 2)
	s := shardsOf(t, stores...)
	for i := range 1 << 16 {
		answers(t, "21.3: Insert", s.Insert(2*i+1, number(i)), api.OK)
	}
	answers(t, "21.3: one word more", s.Insert(1<<20+1, z(0)), api.ErrBusy)
	answers(t, "21.3: the other engine's", s.Insert(1<<20, z(0)), api.OK)
	hits, f := s.TopK(z(0), 2)
	hitsAre(t, "an engine is full of words", hits, f, []api.Hit{{ID: 1, Code: z(0)}, {ID: 1 << 20, Code: z(0)}})
	_, f = stores[1].e.CompactStep()
	answers(t, "17.4: CompactStep", f, api.OK)
	answers(t, "21.3: behind a step of compaction", s.Insert(1<<20+1, z(0)), api.OK)
}

// TestFullDisk: an engine whose disk has no room refuses for itself alone.
func TestFullDisk(t *testing.T) {
	small, great := storeOn(t, disk.New(300), optsOf(64)[1]), storeOf(t, optsOf(64)[0])
	s := shardsOf(t, small, great)
	all, f := map[int]string{}, api.OK
	for id := 0; f == api.OK && id < 1000; id += 2 {
		if f = s.Insert(id, number(id)); f == api.OK {
			all[id] = number(id)
		}
	}
	answers(t, "21.3: Insert without room", f, api.ErrFull)
	answers(t, "21.3: Insert where there is room", s.Insert(1, number(1)), api.OK)
	all[1] = number(1)
	hits, f := s.Radius(number(2), 64)
	hitsAre(t, "a disk is full", hits, f, looked(all, number(2)))
	answers(t, "21.5: Sync", s.Sync(), api.OK)
	if s.Count() != len(all) || small.e.Synced() != len(all)-1 || great.e.Synced() != 1 {
		t.Errorf("21.5: a disk is full: Count %d, synced %d and %d", s.Count(), small.e.Synced(), great.e.Synced())
	}
}

// TestUnmade: shards that nobody has made refuse whatever can be refused.
func TestUnmade(t *testing.T) {
	for _, s := range []*shards.Shards{nil, {}} {
		answers(t, "R1: Insert", s.Insert(1, z(0)), api.ErrEmpty)
		answers(t, "R1: Delete", s.Delete(-1), api.ErrEmpty)
		answers(t, "R1: Sync", s.Sync(), api.ErrEmpty)
		checkGet(t, "unmade", s, 0, "", api.ErrEmpty)
		checkSearches(t, "unmade", s, z(0), 1, 1, nil, api.ErrEmpty)
		if s.Count() != 0 {
			t.Errorf("R1: Count of unmade shards is %d", s.Count())
		}
	}
	// No engine of a list is nil; if one is, nothing panics.
	for _, list := range [][]*engine.Engine{{nil}, {nil, nil}, {{}}, {storeOf(t, optsOf(64)[0]).e, nil}, {nil, {}}} {
		if s, f := shards.New(list); s != nil || f == api.OK {
			t.Errorf("R1: New of %v: %v, %d", list, s, f)
		}
	}
}

// TestNothingIsWritten: New and the questions change no byte, no name and no number, refused or not.
func TestNothingIsWritten(t *testing.T) {
	stores := storesOf(t, 64, 3)
	s := shardsOf(t, stores...)
	for id := range 30 {
		answers(t, "21.3: Insert", s.Insert(id, z(byte(id))), api.OK)
	}
	stores[1].e.CompactStep()
	answers(t, "21.3: Delete", s.Delete(4), api.OK)
	was := ""
	for _, x := range stores {
		was += fmt.Sprintln(x.seen(), x.e.Seq(), x.e.Synced())
	}
	for range 2 {
		shards.New(enginesOf(stores...))
		shards.New(enginesOf(stores[2], stores[0], stores[1]))
		shards.New(enginesOf(stores[0], stores[0]))
		for _, n := range []int{-1, 0, 5, 64, 65, 4097} {
			s.TopK(z(3), n)
			s.TopK("x", n)
			s.Radius(z(3), n)
			s.Get(n)
			s.Insert(3, z(byte(n)))
			s.Delete(4)
		}
		s.Count()
	}
	now := ""
	for _, x := range stores {
		now += fmt.Sprintln(x.seen(), x.e.Seq(), x.e.Synced())
	}
	if now != was {
		t.Errorf("R2: a question, or what was refused, has changed something")
	}
}

// TestAnswersAreNew: what is done to an answer is seen in no other.
func TestAnswersAreNew(t *testing.T) {
	for _, n := range []int{1, 2} {
		s := shardsOf(t, storesOf(t, 64, n)...)
		all := map[int]string{}
		for id := range 20 {
			all[id] = z(byte(id))
			answers(t, "21.3: Insert", s.Insert(id, z(byte(id))), api.OK)
		}
		for range 3 {
			top, f := s.TopK(z(0), 12)
			hitsAre(t, "TopK", top, f, looked(all, z(0))[:12])
			near, f := s.Radius(z(0), 64)
			hitsAre(t, "Radius", near, f, looked(all, z(0)))
			clear(top[:cap(top)])
			clear(near[:cap(near)])
		}
	}
}
