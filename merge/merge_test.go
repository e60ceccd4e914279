package merge_test

import (
	"fmt"
	"math"
	"slices"
	"testing"
	"unsafe"

	"kindred/api"
	"kindred/internal/sample"
	"kindred/merge"
)

// e is a put, as the chapter's examples write it.
func e(value int, code string, id, seq int) api.Entry {
	return api.Entry{Value: value, Code: code, ID: id, Seq: seq}
}

// d is the same, dead.
func d(value int, code string, id, seq int) api.Entry {
	return api.Entry{Value: value, Code: code, ID: id, Seq: seq, Dead: true}
}

// told is something in words, not too many.
func told(what any) string {
	s := fmt.Sprintf("%#v", what)
	if len(s) > 1500 {
		s = s[:1500] + " .."
	}
	return s
}

// merges: Merge answers what 7.2 says.
func merges(t *testing.T, where string, lists []list, bottom bool) list {
	t.Helper()
	got, f := merge.Merge(lists, bottom)
	want, g := merged(lists, bottom)
	if !slices.Equal(got, want) || f != g {
		t.Fatalf("7.2: %s: Merge(%s, %v) is %s, %d, want %s, %d", where, told(lists), bottom, told(got), f, told(want), g)
	}
	return got
}

// goes: a merger over these sources answers and asks, call by call, as 7.5 and 7.6 say, and so on behind the end.
func goes(t *testing.T, where string, scripts []script, bottom bool) {
	t.Helper()
	var a asked
	m := merge.New(a.sources(scripts), bottom)
	if m == nil || len(a.log) > 0 {
		t.Fatalf("7.4: %s: New of %d sources: %v, has asked %s", where, len(scripts), m != nil, told(a.log))
	}
	p := plainly(scripts, bottom)
	for call, behind := 1, 0; behind < 3; call++ {
		var got answer
		got.entry, got.ok, got.e = m.Next()
		want := p.next()
		if got != want {
			t.Fatalf("7.5, 7.6: %s: over %s, bottom %v, call %d is %s, want %s", where, told(scripts), bottom, call, told(got), told(want))
		}
		if !slices.Equal(a.log, p.log) {
			t.Fatalf("7.5, 7.6: %s: over %s, bottom %v, call %d has asked %s so far, want %s", where, told(scripts), bottom, call, told(a.log), told(p.log))
		}
		if !want.ok {
			behind++
		}
	}
}

// drained is what a merger over sources that give lists tells.
func drained(t *testing.T, where string, lists []list, bottom bool) list {
	t.Helper()
	var scripts []script
	for _, l := range lists {
		scripts = append(scripts, gives(l))
	}
	m := merge.New(new(asked).sources(scripts), bottom)
	var all list
	for {
		x, ok, f := m.Next()
		if f != api.OK {
			t.Fatalf("7.9: %s: over %s a merger refuses: %d", where, told(lists), f)
		}
		if !ok {
			return all
		}
		all = append(all, x)
	}
}

func TestExamples(t *testing.T) {
	for _, c := range []struct {
		a, b api.Entry
		want int
	}{{e(1, "b", 9, 1), e(2, "a", 0, 1), -1}, {e(1, "a", 2, 1), e(1, "aa", 1, 1), -1}, {e(1, "a", 2, 5), d(1, "a", 2, 7), 0}} {
		if got := merge.Compare(c.a, c.b); got != c.want {
			t.Errorf("7.1: Compare(%v, %v) is %d, want %d", c.a, c.b, got, c.want)
		}
	}
	for _, c := range []struct {
		l    list
		want api.Errno
	}{{nil, api.OK}, {list{}, api.OK}, {list{e(1, "a", 1, 1), e(1, "a", 1, 2)}, api.ErrOrder}, {list{e(1, "a", 2, 1), e(1, "a", 1, 2)}, api.ErrOrder}} {
		if got := merge.Sorted(c.l); got != c.want {
			t.Errorf("7.1: Sorted(%v) is %d, want %d", c.l, got, c.want)
		}
	}
	two := []list{{e(1, "a", 1, 1), e(2, "a", 1, 2)}, {d(1, "a", 1, 5)}}
	for _, c := range []struct {
		lists  []list
		bottom bool
		want   list
		f      api.Errno
	}{
		{nil, true, nil, api.OK},
		{[]list{{}, {}}, false, nil, api.OK},
		{two, false, list{d(1, "a", 1, 5), e(2, "a", 1, 2)}, api.OK},
		{two, true, list{e(2, "a", 1, 2)}, api.OK},
		{[]list{{d(1, "a", 1, 5)}, {e(1, "a", 1, 1)}, {e(1, "a", 1, 9)}}, true, list{e(1, "a", 1, 9)}, api.OK},
		{[]list{{e(1, "a", 1, 5)}, {e(1, "a", 1, 5)}}, false, nil, api.ErrSeq},
		{[]list{{e(1, "a", 1, 5)}, {e(1, "a", 1, 5)}}, true, nil, api.ErrSeq},
		{[]list{{e(1, "a", 1, 5)}, {e(1, "a", 2, 5)}}, false, list{e(1, "a", 1, 5), e(1, "a", 2, 5)}, api.OK},
		{make([]list, 1025), false, nil, api.ErrMany},
		{make([]list, 1025), true, nil, api.ErrMany},
		{make([]list, 1024), false, nil, api.OK},
	} {
		if got, f := merge.Merge(c.lists, c.bottom); !slices.Equal(got, c.want) || f != c.f {
			t.Errorf("7.2: Merge(%s, %v) is %v, %d, want %v, %d", told(c.lists), c.bottom, got, f, c.want, c.f)
		}
	}
	if merge.New(make([]merge.Source, 1025), false) != nil {
		t.Error("7.4: New of 1025 sources is a merger")
	}
	var a asked
	m := merge.New(a.sources([]script{{{entry: e(1, "a", 1, 1), ok: true}, {e: api.ErrDown}}, gives(list{e(3, "a", 1, 2)})}), false)
	for range 2 {
		if x, ok, f := m.Next(); x != (api.Entry{}) || ok || f != api.ErrDown {
			t.Errorf("7.6: Next behind a refusal is %v, %v, %d, want %d", x, ok, f, api.ErrDown)
		}
	}
	if !slices.Equal(a.log, []int{0, 1, 0}) {
		t.Errorf("7.6: asked were %v", a.log)
	}
}

func TestCompare(t *testing.T) {
	var places list
	for _, v := range edges {
		for _, c := range codes {
			places = append(places, e(v, c, 0, 0))
		}
		for _, id := range edges {
			places = append(places, e(v, "a", id, 0), e(-7, "b", v, id))
		}
	}
	for i, a := range places {
		for j, b := range places {
			a.Seq, a.Dead = i-j, i%2 == 0
			b.Seq, b.Dead = j-i*3, j%3 == 0
			if got, want := merge.Compare(a, b), order(placeOf(a), placeOf(b)); got != want {
				t.Fatalf("7.1: Compare(%#v, %#v) is %d, want %d", a, b, got, want)
			}
		}
	}
}

// looked: Sorted answers what 7.1 says.
func looked(t *testing.T, l list) {
	t.Helper()
	want := api.OK
	if !rises(l) {
		want = api.ErrOrder
	}
	if got := merge.Sorted(l); got != want {
		t.Fatalf("7.1: Sorted(%s) is %d, want %d", told(l), got, want)
	}
}

// rows are all lists of up to n of these entries.
func rows(entries list, n int) []list {
	all := []list{nil}
	from := 0
	for range n {
		to := len(all)
		for _, l := range all[from:to] {
			for _, x := range entries {
				all = append(all, append(slices.Clone(l), x))
			}
		}
		from = to
	}
	return all
}

func TestSorted(t *testing.T) {
	for _, l := range rows(list{e(1, "a", 1, 9), e(1, "a", 2, 1), e(1, "b", 0, 5), d(2, "", 0, 0), d(1, "a", 1, 0)}, 5) {
		looked(t, l)
	}
	for _, v := range edges {
		for _, w := range edges {
			looked(t, list{e(v, "a", 1, 1), e(w, "a", 1, 2)})
			looked(t, list{e(1, "a", v, 1), e(1, "a", w, 2)})
			looked(t, list{e(1, "a", 1, v), e(1, "a", 1, w)})
		}
	}
	m := maker{sample.From(71)}
	for range 20000 {
		l := m.rising(20)
		looked(t, l)
		looked(t, m.spoilt(l))
	}
}

// TestSmallMerges: all pairs of lists of up to two entries, and triples of fewer ones.
func TestSmallMerges(t *testing.T) {
	a, b := e(1, "a", 1, 1), e(1, "a", 2, 1)
	few := rows(list{a, d(1, "a", 1, 2), b, e(1, "a", 2, 2)}, 2)
	more := rows(list{a, e(1, "a", 1, 2), d(1, "a", 1, 1), d(1, "a", 1, 2), b, e(1, "a", 2, 2), d(1, "a", 2, 3)}, 2)
	for _, bottom := range []bool{false, true} {
		for _, k := range more {
			merges(t, "one", []list{k}, bottom)
			for _, l := range more {
				merges(t, "two", []list{k, l}, bottom)
			}
		}
		for _, k := range few {
			for _, l := range few {
				for _, m := range few {
					merges(t, "three", []list{k, l, m}, bottom)
				}
			}
		}
	}
}

// TestSmallSources: all pairs of scripts of up to three answers, and triples of fewer ones.
func TestSmallSources(t *testing.T) {
	answers := []answer{{e(1, "a", 1, 1), true, 0}, {d(1, "a", 1, 2), true, 0}, {e(1, "a", 2, 1), true, 0}, {e(1, "a", 2, 2), true, 0}, {e: 45}, {e(1, "a", 3, 1), true, 99}, {e(1, "a", 3, 1), false, 0}}
	scripts := func(n int) []script {
		all := []script{nil, {}}
		from := 1
		for range n {
			to := len(all)
			for _, s := range all[from:to] {
				for _, x := range answers {
					all = append(all, append(slices.Clone(s), x))
				}
			}
			from = to
		}
		return all
	}
	for _, bottom := range []bool{false, true} {
		three := scripts(3)
		for _, r := range three {
			goes(t, "one", []script{r}, bottom)
			for _, s := range three {
				goes(t, "two", []script{r, s}, bottom)
			}
		}
		two := scripts(2)
		for i, r := range two {
			for j, s := range two {
				for _, u := range two[:len(two)/(1+(i+j)%3)] {
					goes(t, "three", []script{r, s, u}, bottom)
				}
			}
		}
	}
}

func TestMadeUpMerges(t *testing.T) {
	m := maker{sample.From(72)}
	refused := map[api.Errno]int{}
	for i := range 20000 {
		lists := m.lists(8, 12, 20)
		if i%2 == 0 {
			lists = m.apart(lists)
		}
		bottom := m.Below(2) == 0
		merges(t, "made up", lists, bottom)
		_, f := merged(lists, bottom)
		refused[f]++
	}
	if refused[api.OK] < 1000 || refused[api.ErrOrder] < 1000 || refused[api.ErrSeq] < 1000 {
		t.Errorf("what was made up is of one kind: %v", refused)
	}
}

func TestMadeUpSources(t *testing.T) {
	m := maker{sample.From(73)}
	for i := range 20000 {
		lists := m.lists(8, 12, 20)
		if i%4 > 0 {
			lists = m.apart(lists)
		}
		goes(t, "made up", m.scripts(lists), m.Below(2) == 0)
	}
}

// TestOrderOfRefusals: ErrMany, ErrOrder, ErrSeq, wherever among the lists and places the faults are.
func TestOrderOfRefusals(t *testing.T) {
	same := list{e(1, "a", 1, 5)}
	falls := list{e(9, "a", 2, 7), e(9, "a", 1, 8)}
	for _, bottom := range []bool{false, true} {
		for _, at := range []int{0, 1, 500, 1022, 1023} {
			lists := make([]list, 1024)
			lists[at], lists[(at+3)%1024] = same, same
			if got, f := merge.Merge(lists, bottom); got != nil || f != api.ErrSeq {
				t.Errorf("7.2: one Seq twice from list %d on: %v, %d, want %d", at, got, f, api.ErrSeq)
			}
			lists[(at+5)%1024] = falls
			if got, f := merge.Merge(lists, bottom); got != nil || f != api.ErrOrder {
				t.Errorf("7.2: and a list that does not rise: %v, %d, want %d", got, f, api.ErrOrder)
			}
			lists = append(lists, nil)
			if got, f := merge.Merge(lists, bottom); got != nil || f != api.ErrMany {
				t.Errorf("7.2: and 1025 lists: %v, %d, want %d", got, f, api.ErrMany)
			}
		}
	}
	for _, n := range []int{1025, 1026, 2048, 1 << 16, 1<<16 + 1} {
		if got, f := merge.Merge(make([]list, n), false); got != nil || f != api.ErrMany {
			t.Errorf("7.2: Merge of %d lists: %v, %d, want %d", n, got, f, api.ErrMany)
		}
		if merge.New(make([]merge.Source, n), false) != nil {
			t.Errorf("7.4: New of %d sources is a merger", n)
		}
	}
}

// TestSameSeqBelowTheLast: the entry that counts is the only one of its Seq, but two below it are not.
func TestSameSeqBelowTheLast(t *testing.T) {
	for _, seqs := range [][]int{{1, 1, 9}, {1, 9, 1}, {9, 1, 1}, {9, 3, 1, 3, 2}, {-1, math.MinInt, math.MaxInt, math.MinInt}, {0, 0}} {
		for _, bottom := range []bool{false, true} {
			var lists []list
			var scripts []script
			for i, seq := range seqs {
				l := list{{Value: 4, ID: 7, Seq: seq, Dead: i%2 == 0}}
				lists = append(lists, l)
				scripts = append(scripts, gives(l))
			}
			if got, f := merge.Merge(lists, bottom); got != nil || f != api.ErrSeq {
				t.Errorf("7.2: Seqs %v: %v, %d, want %d", seqs, got, f, api.ErrSeq)
			}
			goes(t, "one Seq twice", scripts, bottom)
		}
	}
}

// TestManyAtOnePlace: 1024 lists that all meet, in which Seqs fall, rise or jump.
func TestManyAtOnePlace(t *testing.T) {
	for _, step := range []int{1, 1023, 389} {
		lists := make([]list, 1024)
		scripts := make([]script, 1024)
		for i := range lists {
			seq := i * step % 1024
			lists[i] = list{{Value: 1, Seq: seq, Dead: seq%2 == 0}, {Value: 2 + i%3, Seq: seq, Dead: seq%5 == 0}, {Value: 9, Seq: seq, Dead: seq == 1023}}
			scripts[i] = gives(lists[i])
		}
		for _, bottom := range []bool{false, true} {
			merges(t, "1024 lists", lists, bottom)
			goes(t, "1024 sources", scripts, bottom)
		}
		lists[700][2].Seq = lists[20][2].Seq
		merges(t, "1024 lists with one Seq twice", lists, false)
	}
}

// TestRefusalsAsTheyCame: any Errno, with whatever beside it, at the beginning, at a place, behind the dead.
func TestRefusalsAsTheyCame(t *testing.T) {
	for _, n := range edges {
		if n == 0 {
			continue
		}
		for _, beside := range []answer{{}, {ok: true}, {entry: e(7, "x", 1, 1)}, {entry: e(7, "x", 1, 1), ok: true}, {entry: e(-7, "x", 1, 1), ok: true}} {
			beside.e = api.Errno(n)
			for _, ahead := range []list{nil, {e(1, "a", 1, 1)}, {d(1, "a", 1, 1)}, {d(1, "a", 1, 1), d(2, "a", 1, 1)}, {e(1, "a", 1, 1), e(2, "a", 1, 1)}} {
				s := append(gives(ahead), beside)
				for _, bottom := range []bool{false, true} {
					goes(t, "alone", []script{s}, bottom)
					goes(t, "the first", []script{s, gives(list{e(1, "a", 1, 2), e(3, "a", 1, 2)}), {{e: 98}}}, bottom)
					goes(t, "the last", []script{gives(list{e(1, "a", 1, 2), e(3, "a", 1, 2)}), s}, bottom)
				}
			}
		}
	}
}

// TestWhatComesFirst: at one place one source would refuse and another would not rise, or two have one Seq.
func TestWhatComesFirst(t *testing.T) {
	at := func(seq int) answer { return answer{entry: e(5, "a", 5, seq), ok: true} }
	falls := answer{entry: e(4, "a", 5, 1), ok: true}
	for _, c := range []struct {
		scripts []script
		want    api.Errno
		log     []int
	}{
		{[]script{{at(1), falls}, {at(2), {e: 45}}}, api.ErrOrder, []int{0, 1, 0}},
		{[]script{{at(2), {e: 45}}, {at(1), falls}}, api.ErrDown, []int{0, 1, 0}},
		{[]script{{at(9), {e: 45}}, {at(1), falls}}, api.ErrDown, []int{0, 1, 0}},
		{[]script{{at(1), {e: 45}}, {at(1), falls}}, api.ErrSeq, []int{0, 1}},
		{[]script{{at(1), {e: 45}}, {at(2), falls}, {at(1)}}, api.ErrSeq, []int{0, 1, 2}},
		{[]script{{at(1)}, {{e: 45}}, {at(1)}}, api.ErrDown, []int{0, 1}},
		{[]script{{at(1)}, nil, {{e: 45}}, {{e: 46}}}, api.ErrDown, []int{0, 2}},
		{[]script{{at(3)}, {at(2)}, {at(1), {e: 45}}, {at(4), {e: 46}}}, api.ErrDown, []int{0, 1, 2, 3, 0, 1, 2}},
		{[]script{{at(3)}, {{entry: e(6, "", 0, 3), ok: true}, {e: 45}}, {{entry: e(6, "", 0, 2), ok: true}}, {{entry: e(6, "", 0, 2), ok: true}}}, api.OK, []int{0, 1, 2, 3, 0}},
	} {
		var a asked
		m := merge.New(a.sources(c.scripts), false)
		if _, ok, f := m.Next(); ok != (c.want == api.OK) || f != c.want || !slices.Equal(a.log, c.log) {
			t.Errorf("7.6: over %s Next tells %v, %d and has asked %v, want %d and %v", told(c.scripts), ok, f, a.log, c.want, c.log)
		}
		goes(t, "what comes first", c.scripts, false)
		goes(t, "what comes first", c.scripts, true)
	}
}

// TestNoMoreThanOneAhead: a source that never ends is asked for one more than were told of it.
func TestNoMoreThanOneAhead(t *testing.T) {
	n := [3]int{}
	var sources []merge.Source
	for i := range n {
		sources = append(sources, merge.Source{Next: func() (api.Entry, bool, api.Errno) {
			n[i]++
			return e(n[i], "a", i, n[i]), true, api.OK
		}})
	}
	m := merge.New(sources, true)
	for k := range 3000 {
		if x, ok, f := m.Next(); x != e(k/3+1, "a", k%3, k/3+1) || !ok || f != api.OK {
			t.Fatalf("7.5: call %d is %v, %v, %d", k, x, ok, f)
		}
		for i := range n {
			if want := 1 + (k+3-i)/3; n[i] != want {
				t.Fatalf("7.5: behind call %d source %d was asked %d times, want %d", k, i, n[i], want)
			}
		}
	}
}

// TestEnds: no sources, sources without Next, sources that end at once.
func TestEnds(t *testing.T) {
	for _, bottom := range []bool{false, true} {
		for _, scripts := range [][]script{nil, {}, {nil}, {{}}, {nil, nil, nil}, {nil, {}, nil, {}}, make([]script, 1024), {nil, gives(list{e(1, "a", 1, 1)}), nil}, {gives(list{d(1, "a", 1, 1), d(2, "a", 1, 1)}), {}}} {
			goes(t, "ends", scripts, bottom)
		}
	}
	if m := merge.New(nil, true); m == nil {
		t.Error("7.4: New of no sources is none")
	}
}

// TestNoMerger: calls on what New has not made end, and tell nothing.
func TestNoMerger(t *testing.T) {
	var none *merge.Merger
	for _, m := range []*merge.Merger{none, {}, merge.New(make([]merge.Source, 1025), true)} {
		for range 2 {
			if x, ok, f := m.Next(); x != (api.Entry{}) || ok || f != api.OK {
				t.Errorf("R1: Next is %v, %v, %d", x, ok, f)
			}
		}
	}
}

// TestTheListOfSources: it is not kept and not changed, its spare room neither.
func TestTheListOfSources(t *testing.T) {
	scripts := []script{gives(list{e(1, "a", 1, 1), e(3, "a", 1, 1)}), gives(list{e(2, "a", 1, 1), e(4, "a", 1, 1)})}
	var a, other asked
	sources := append(a.sources(scripts), other.sources([]script{gives(list{e(0, "b", 1, 1)})})...)
	m := merge.New(sources[:2], false)
	wrong := merge.Source{Next: func() (api.Entry, bool, api.Errno) { return e(-5, "", 0, 0), true, 77 }}
	for k := range 5 {
		sources[0], sources[1] = wrong, merge.Source{}
		want := answer{entry: e(k+1, "a", 1, 1), ok: true}
		if k == 4 {
			want = answer{}
		}
		var got answer
		if got.entry, got.ok, got.e = m.Next(); got != want {
			t.Fatalf("7.4: call %d is %s, want %s", k, told(got), told(want))
		}
	}
	if len(other.log) > 0 {
		t.Error("R4: a source in the list's spare room was asked")
	}
	if x, _, f := sources[2].Next(); x != e(0, "b", 1, 1) || f != api.OK {
		t.Errorf("R4: the list's spare room was changed: %v, %d", x, f)
	}
	sources = a.sources(scripts)
	m = merge.New(sources, false)
	m.Next()
	for i := range sources {
		if sources[i].Next == nil {
			t.Errorf("R4: the list of sources was changed at %d", i)
		}
	}
}

// TestTwoMergers: what one is asked is nothing to the other, over the same lists or not.
func TestTwoMergers(t *testing.T) {
	m := maker{sample.From(74)}
	for range 500 {
		lists := m.apart(m.lists(5, 10, 1<<30))
		var scripts []script
		for _, l := range lists {
			scripts = append(scripts, gives(l))
		}
		with, without := merge.New(new(asked).sources(scripts), true), merge.New(new(asked).sources(scripts), false)
		p, q := plainly(scripts, true), plainly(scripts, false)
		for range 60 {
			one, other, want := with, "with", p
			if m.Below(2) == 0 {
				one, other, want = without, "without", q
			}
			var got answer
			got.entry, got.ok, got.e = one.Next()
			if w := want.next(); got != w {
				t.Fatalf("7.5: of two mergers that %s bottom tells %s, want %s", other, told(got), told(w))
			}
		}
	}
}

// loose is a text whose bytes turn told makes others.
func loose(s string) (text string, turn func()) {
	b := []byte(s)
	return unsafe.String(unsafe.SliceData(b), len(b)), func() {
		for i := range b {
			b[i] = '#'
		}
	}
}

// TestNewMemory: lists and their spare room are as they were, and the answer shares nothing with them or with another.
func TestNewMemory(t *testing.T) {
	m := maker{sample.From(75)}
	for range 2000 {
		lists := m.lists(5, 8, 10)
		var roomy, before []list
		for _, l := range lists {
			all := append(slices.Clone(l), e(-1, "spare", 1, 1), e(-2, "spare", 2, 2))
			before = append(before, slices.Clone(all))
			roomy = append(roomy, all[:len(l)])
		}
		handed := append(slices.Clone(roomy), list{e(3, "spare list", 3, 3)})
		bottom := m.Below(2) == 0
		got := merges(t, "with spare room", handed[:len(roomy)], bottom)
		kept := slices.Clone(got)
		for i := range roomy {
			merge.Sorted(roomy[i])
			if !slices.Equal(roomy[i][:len(roomy[i])+2], before[i]) || len(handed[i]) != len(roomy[i]) || len(roomy[i]) > 0 && &handed[i][0] != &roomy[i][0] {
				t.Fatalf("7.2: list %d was changed", i)
			}
		}
		if len(handed) != len(roomy)+1 || !slices.Equal(handed[len(roomy)], list{e(3, "spare list", 3, 3)}) {
			t.Fatal("R4: the spare room of the list of lists was changed")
		}
		again, _ := merge.Merge(roomy, bottom)
		for i := range again {
			again[i] = api.Entry{}
		}
		clear(again[:cap(again)])
		for _, l := range roomy {
			clear(l)
		}
		if !slices.Equal(got, kept) {
			t.Fatalf("R4: an answer shares memory: it was %s, is %s", told(kept), told(got))
		}
	}
	// One list alone is no shorter way.
	one := list{e(1, "a", 1, 1), e(2, "a", 1, 1)}
	got, _ := merge.Merge([]list{nil, one}, false)
	one[0].Value = 9
	if got[0].Value != 1 {
		t.Error("7.2: the answer of one list is that list")
	}
}

func TestTextsAreNotKept(t *testing.T) {
	code, turn := loose("abc")
	got, f := merge.Merge([]list{{e(1, code, 1, 1)}, {e(1, code, 2, 2)}}, false)
	turn()
	if f != api.OK || !slices.Equal(got, list{e(1, "abc", 1, 1), e(1, "abc", 2, 2)}) {
		t.Errorf("R4: a code of an answer is that which was handed in: %v, %d", got, f)
	}
}

// cut are the entries of all lists cut into others, each rising: as many as needed, at least n.
func (m maker) cut(lists []list, n int) []list {
	other := make([]list, n)
	for _, l := range lists {
		for _, x := range l {
			i := m.Below(len(other))
			for slices.ContainsFunc(other[i], func(y api.Entry) bool { return placeOf(x) == placeOf(y) }) {
				if i++; i == len(other) {
					other = append(other, nil)
				}
			}
			other[i] = append(other[i], x)
		}
	}
	for _, l := range other {
		slices.SortFunc(l, func(a, b api.Entry) int { return order(placeOf(a), placeOf(b)) })
	}
	return other
}

// done is Merge of lists of which none is refused.
func done(t *testing.T, lists []list, bottom bool) list {
	t.Helper()
	got, f := merge.Merge(lists, bottom)
	if f != api.OK {
		t.Fatalf("7.7: Merge(%s, %v) refuses: %d", told(lists), bottom, f)
	}
	return got
}

func TestTheLastWord(t *testing.T) {
	m := maker{sample.From(76)}
	for range 3000 {
		lists := m.apart(m.lists(8, 12, 1<<30))
		with, without := done(t, lists, true), done(t, lists, false)
		for range 3 {
			other := m.cut(lists, 1+m.Below(9))
			for i := range other {
				j := m.Below(i + 1)
				other[i], other[j] = other[j], other[i]
			}
			if !slices.Equal(done(t, other, true), with) || !slices.Equal(done(t, other, false), without) {
				t.Fatalf("7.7: Merge(%s) and Merge(%s) are unlike", told(lists), told(other))
			}
			at := m.Below(len(other) + 1)
			parts := append([]list{done(t, other[:at], false)}, other[at:]...)
			if !slices.Equal(done(t, parts, true), with) || !slices.Equal(done(t, parts, false), without) {
				t.Fatalf("7.7: of %s those ahead of %d, merged first, make another list", told(other), at)
			}
		}
		less := slices.DeleteFunc(slices.Clone(without), func(x api.Entry) bool { return x.Dead })
		if !slices.Equal(with, less) {
			t.Fatalf("7.8: Merge(%s) at the bottom is %s, want %s", told(lists), told(with), told(less))
		}
		if got := drained(t, "made up", lists, true); !slices.Equal(got, with) {
			t.Fatalf("7.9: over %s a merger tells %s, want %s", told(lists), told(got), told(with))
		}
		if got := drained(t, "made up", lists, false); !slices.Equal(got, without) {
			t.Fatalf("7.9: over %s a merger tells %s, want %s", told(lists), told(got), told(without))
		}
	}
}

// TestTooEarly: 7.8's warning: bottom of a part brings older entries to life, so it must not be what Merge without bottom does.
func TestTooEarly(t *testing.T) {
	old, dead := list{e(1, "a", 1, 1)}, list{d(1, "a", 1, 5)}
	if got := done(t, []list{done(t, []list{dead}, true), old}, true); !slices.Equal(got, old) {
		t.Errorf("7.8: the dead left out too early: %v", got)
	}
	if got := done(t, []list{done(t, []list{dead}, false), old}, true); len(got) > 0 {
		t.Errorf("7.8: the dead left out at the end: %v", got)
	}
}

// TestGreatLists: many entries, in one list, in as many as a store has runs, in as many as there can be.
func TestGreatLists(t *testing.T) {
	for _, n := range []int{1, api.MaxRuns, api.MaxSources} {
		lists := make([]list, n)
		for i := range api.MaxEntries / 8 {
			seq := i * 389 % (api.MaxEntries / 8)
			x := api.Entry{Value: i / 120, Code: "abcdefgh", ID: i / 3 % 40, Seq: seq, Dead: i%5 == 0}
			l := &lists[seq%n]
			if len(*l) == 0 || placeOf((*l)[len(*l)-1]) != placeOf(x) {
				*l = append(*l, x)
			}
		}
		for _, bottom := range []bool{false, true} {
			merges(t, "great lists", lists, bottom)
		}
	}
}
