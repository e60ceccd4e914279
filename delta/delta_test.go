package delta_test

import (
	"fmt"
	"math"
	"slices"
	"strings"
	"testing"
	"unsafe"

	"kindred/api"
	"kindred/delta"
	"kindred/internal/sample"
)

// eight is a code of 64 bits: eight times a letter.
func eight(letter string) string { return strings.Repeat(letter, 8) }

// put is a word, as the chapter's examples write it.
func put(value int, code string, id, seq int) api.Entry {
	return api.Entry{Value: value, Code: code, ID: id, Seq: seq}
}

// dead is the same, of a pair that was taken away.
func dead(value int, code string, id, seq int) api.Entry {
	return api.Entry{Value: value, Code: code, ID: id, Seq: seq, Dead: true}
}

// told is something in words, not too many.
func told(what any) string {
	s := fmt.Sprintf("%+q", fmt.Sprintf("%+v", what))
	if len(s) > 1200 {
		s = s[:1200] + " .."
	}
	return s
}

// alike: two lists of clusters are.
func alike(a, b []api.Cluster) bool {
	return slices.EqualFunc(a, b, func(x, y api.Cluster) bool { return x.Code == y.Code && slices.Equal(x.IDs, y.IDs) })
}

// both is a delta and its model, which are told the same.
type both struct {
	t *testing.T
	d *delta.Delta
	o *model
}

func newBoth(t *testing.T, w, m int) *both {
	t.Helper()
	d := delta.New(w, m)
	if d == nil {
		t.Fatalf("9.1: New(%d, %d) is nil", w, m)
	}
	return &both{t, d, &model{w: w, m: m, cut: map[string][]int{}}}
}

// say tells a word to both, which must answer the same.
func (b *both) say(e api.Entry) api.Errno {
	b.t.Helper()
	call, name := b.d.Put, "Put"
	if e.Dead {
		call, name = b.d.Kill, "Kill"
	}
	last, many := b.o.last, len(b.o.said)
	got, want := call(e.Seq, e.ID, e.Code), b.o.say(e)
	if got != want {
		b.t.Fatalf("9.2: w %d, m %d: %s(%d, %d, %+q), the last number %d, behind %d words: %d, want %d", b.o.w, b.o.m, name, e.Seq, e.ID, e.Code, last, many, got, want)
	}
	return want
}

func (b *both) clear() {
	b.d.Clear()
	b.o.clear()
}

// sees: all questions, of each table and of tables that are not there, are answered as the model says.
func (b *both) sees(where string) {
	b.t.Helper()
	where = fmt.Sprintf("%s: w %d, m %d", where, b.o.w, b.o.m)
	words := b.o.words()
	if got := b.d.Len(); got != len(words) {
		b.t.Fatalf("9.4: %s: Len is %d, want %d", where, got, len(words))
	}
	for _, want := range words {
		if got, ok := b.d.Word(want.ID, want.Code); got != want || !ok {
			b.t.Fatalf("9.3: %s: Word(%d, %+q) is %s, %v, want %s", where, want.ID, want.Code, told(got), ok, told(want))
		}
	}
	if got, want := b.d.Codes(), b.o.codes(); !alike(got, want) {
		b.t.Fatalf("9.4: %s: Codes are %s, want %s", where, told(got), told(want))
	}
	for j := range b.o.tables() {
		b.table(where, j)
	}
	for _, j := range []int{-1, b.o.tables(), b.o.m + 1, math.MinInt, math.MaxInt} {
		if got := b.d.Entries(j); len(got) > 0 {
			b.t.Fatalf("9.4: %s: Entries(%d) are %s, of no table", where, j, told(got))
		}
		for _, e := range b.o.entries(0) {
			if got := b.d.Find(j, e.Value); len(got) > 0 {
				b.t.Fatalf("9.4: %s: Find(%d, %d) are %s, of no table", where, j, e.Value, told(got))
			}
		}
	}
}

// table: table j tells all words in order, and each by its value, and by values that no word has none.
func (b *both) table(where string, j int) {
	b.t.Helper()
	all := b.o.entries(j)
	if got := b.d.Entries(j); !slices.Equal(got, all) {
		b.t.Fatalf("9.4, 9.6: %s: Entries(%d) are %s, want %s", where, j, told(got), told(all))
	}
	values := []int{math.MinInt, -1, 0, 1, 97, 255, math.MaxUint32, math.MaxInt}
	for _, e := range all {
		values = append(values, e.Value-1, e.Value, e.Value+1, -e.Value-1, e.Value+1<<32)
	}
	slices.Sort(values)
	for _, value := range slices.Compact(values) {
		if got, want := b.d.Find(j, value), with(all, value); !slices.Equal(got, want) {
			b.t.Fatalf("9.4, 9.7: %s: Find(%d, %d) are %s, want %s", where, j, value, told(got), told(want))
		}
	}
}

func TestExamples(t *testing.T) {
	if delta.New(63, 8) != nil || delta.New(64, 1) != nil || delta.New(64, 9) != nil {
		t.Errorf("9.1: there is a delta of 63 bits, or of 64 in 1 or 9 chunks")
	}
	one := delta.New(64, 0)
	if one == nil || one.Put(1, 1, eight("a")) != api.OK || len(one.Entries(0)) != 1 || len(one.Entries(1)) != 0 {
		t.Errorf("9.1: New(64, 0) is no delta with one table")
	}
	a, b := eight("a"), eight("b")
	d := delta.New(64, 8)
	said := func(row int, got, want api.Errno) {
		t.Helper()
		if got != want {
			t.Errorf("9.2: row %d: %d, want %d", row, got, want)
		}
	}
	said(2, d.Put(3, 1, a), api.OK)
	said(2, d.Put(3, 2, a), api.ErrSeq)
	said(2, d.Put(4, -1, a), api.ErrID)
	said(2, d.Put(4, 2, "aa"), api.ErrCode)
	said(2, d.Kill(5, 2, a), api.OK)
	for _, c := range []struct {
		id   int
		code string
		want api.Entry
		ok   bool
	}{{1, a, put(0, a, 1, 3), true}, {2, a, dead(0, a, 2, 5), true}, {2, b, api.Entry{}, false}} {
		if got, ok := d.Word(c.id, c.code); got != c.want || ok != c.ok {
			t.Errorf("9.3: Word(%d, %s) is %s, %v, want %s, %v", c.id, c.code, told(got), ok, told(c.want), c.ok)
		}
	}
	if got := d.Len(); got != 2 {
		t.Errorf("9.4: Len is %d, want 2", got)
	}
	two := []api.Entry{put(97, a, 1, 3), dead(97, a, 2, 5)}
	if got := d.Entries(0); !slices.Equal(got, two) {
		t.Errorf("9.4: Entries(0) are %s, want %s", told(got), told(two))
	}
	if got := d.Find(7, 97); !slices.Equal(got, two) {
		t.Errorf("9.4: Find(7, 97) are %s, want %s", told(got), told(two))
	}
	if x, y := d.Find(0, 98), d.Find(8, 97); len(x)+len(y) > 0 {
		t.Errorf("9.4: Find(0, 98), Find(8, 97) are %s, %s, want none", told(x), told(y))
	}
	codes := func(row int, want ...api.Cluster) {
		t.Helper()
		if got := d.Codes(); !alike(got, want) {
			t.Errorf("9.4: row %d: Codes are %s, want %s", row, told(got), told(want))
		}
	}
	codes(5, api.Cluster{Code: a, IDs: []int{1}})
	said(6, d.Kill(6, 1, a), api.OK)
	codes(6)
	said(6, d.Put(7, 1, b), api.OK)
	said(6, d.Put(8, 0, b), api.OK)
	codes(6, api.Cluster{Code: b, IDs: []int{0, 1}})
	d.Clear()
	if got := d.Len(); got != 0 {
		t.Errorf("9.5: Len is %d behind Clear", got)
	}
	said(7, d.Put(8, 5, a), api.ErrSeq)
	said(7, d.Put(9, 5, a), api.OK)
}

func TestNew(t *testing.T) {
	ms := slices.Clone(edges)
	for m := -3; m <= 140; m++ {
		ms = append(ms, m)
	}
	ws := slices.Clone(edges)
	for w := -130; w <= 1200; w++ {
		ws = append(ws, w)
	}
	for _, w := range ws {
		for _, m := range ms {
			d := delta.New(w, m)
			if (d != nil) != goes(w, m) {
				t.Fatalf("9.1: New(%d, %d): there is one: %v", w, m, d != nil)
			}
			if d != nil && d.Len()+len(d.Codes())+len(d.Entries(0))+len(d.Find(0, 0)) > 0 {
				t.Fatalf("9.1: New(%d, %d) has words", w, m)
			}
		}
	}
}

func TestFirstNumber(t *testing.T) {
	for _, seq := range edges {
		for _, gone := range []bool{false, true} {
			b := newBoth(t, 64, 8)
			b.say(api.Entry{Code: eight("a"), ID: 1, Seq: seq, Dead: gone})
			b.sees("one word")
		}
	}
}

func TestTables(t *testing.T) {
	// One word in every kind of delta: in each table it has its chunk's value, with m = 0 the value 0.
	s := sample.From(1)
	for w := 64; w <= 1024; w += 64 {
		for m := 0; m <= w/8; m++ {
			if !goes(w, m) {
				continue
			}
			b := newBoth(t, w, m)
			b.say(api.Entry{Code: s.Text(w / 8), ID: s.Below(9), Seq: 1, Dead: m%2 == 1})
			if m%5 == 0 {
				b.say(api.Entry{Code: strings.Repeat("\xff", w/8), ID: s.Below(9), Seq: 2})
				b.say(api.Entry{Code: strings.Repeat("\x00", w/8), ID: s.Below(9), Seq: 3})
			}
			b.sees("few words")
		}
	}
}

func TestRefusalsInOrder(t *testing.T) {
	// Every row of faults, at the bounds of each, on a delta with words; nothing changes by a refusal, and what is taken is told.
	codes := []string{"", "a", eight("a")[1:], eight("a"), eight("a") + "a", eight("b"), eight("a") + eight("a"), strings.Repeat("a", 64), strings.Repeat("a", 63), strings.Repeat("a", 128)}
	for _, w := range []int{64, 128} {
		for _, m := range []int{0, w / 32, w / 8} {
			for _, code := range codes {
				for _, id := range edges {
					b := newBoth(t, w, m)
					b.say(api.Entry{Code: strings.Repeat("a", w/8), ID: 1, Seq: 64})
					for _, seq := range append([]int{62, 63, 64, 65}, edges...) {
						for _, gone := range []bool{false, true} {
							b.say(api.Entry{Code: code, ID: id, Seq: seq, Dead: gone})
						}
					}
					if id == 0 || id == -1 || len(code)*8 == w && id >= 0 {
						b.sees("behind refusals")
					}
				}
			}
		}
	}
}

func TestARefusalChangesNothing(t *testing.T) {
	a := eight("a")
	for _, e := range []api.Entry{
		put(0, "aa", 1, 9), put(0, "", 1, 9), put(0, a+"a", 2, 9), put(0, a, -1, 9), put(0, a, 1<<48+1, 9), put(0, a, 1, 5), put(0, a, 2, 4), put(0, a, 1, 1<<60+1),
		put(0, a, 2, math.MaxInt), put(0, a, 2, math.MinInt),
	} {
		for _, gone := range []bool{false, true} {
			e.Dead = gone
			b := newBoth(t, 64, 8)
			b.say(dead(0, a, 1, 4))
			b.say(put(0, a, 3, 5))
			if got := b.say(e); got == api.OK {
				t.Fatalf("9.2: %s is taken", told(e))
			}
			b.sees("behind a refusal")
			// The last number is as it was: 6 goes, and of what was refused no word is there.
			if got := b.say(put(0, a, 2, 6)); got != api.OK {
				t.Fatalf("9.2: behind %s, refused, Put(6, 2, a) is %d", told(e), got)
			}
			b.sees("one word further")
		}
	}
}

func TestTheLastNumbers(t *testing.T) {
	b := newBoth(t, 64, 2)
	for _, seq := range []int{1, 2, 1 << 59, 1<<60 - 2, 1<<60 - 2, 1<<60 - 1, 1 << 60, 1 << 60, 1<<60 + 1, 3} {
		b.say(put(0, eight("a"), 1, seq))
		b.say(dead(0, eight("b"), 1, seq))
	}
	b.sees("at the numbers' end")
	b.clear()
	b.say(put(0, eight("a"), 1, 1))
	b.say(put(0, eight("a"), 1, 1<<60))
	b.sees("at the numbers' end, cleared")
}

func TestWordOfAny(t *testing.T) {
	b := newBoth(t, 64, 8)
	b.say(put(0, eight("a"), 1, 1))
	b.say(dead(0, eight("\x00"), 0, 2))
	b.say(put(0, eight("\xff"), 1<<48, 3))
	for _, id := range edges {
		for _, code := range []string{"", "\x00", "a", eight("a"), eight("a") + "a", eight("a")[1:], eight("b"), eight("A"), eight("\x00"), eight("\xff"), eight("\x00") + "\x00", strings.Repeat("a", 5000)} {
			want, there := b.o.word(id, code)
			if got, ok := b.d.Word(id, code); got != want || ok != there {
				t.Errorf("9.3: Word(%d, %s) is %s, %v, want %s, %v", id, told(code), told(got), ok, told(want), there)
			}
		}
	}
	b.sees("asked for words that are not there")
}

func TestFindOfAny(t *testing.T) {
	b := newBoth(t, 128, 5)
	s := sample.From(2)
	for seq := range 40 {
		b.say(api.Entry{Code: s.Text(16), ID: s.Below(5), Seq: seq + 1, Dead: s.Below(3) == 0})
	}
	for _, j := range edges {
		for _, value := range edges {
			if got, want := b.d.Find(j, value), b.o.find(j, value); !slices.Equal(got, want) {
				t.Fatalf("9.4: Find(%d, %d) are %s, want %s", j, value, told(got), told(want))
			}
		}
		if got, want := b.d.Entries(j), b.o.entries(j); !slices.Equal(got, want) {
			t.Fatalf("9.4: Entries(%d) are %s, want %s", j, told(got), told(want))
		}
	}
	b.sees("asked for values that are not there")
}

func TestOrder(t *testing.T) {
	// Codes that fall in one table rise in another; bytes above 127 stand behind all others; ids by number, not by their digits.
	codes := []string{"\x00\x00\x00\x00\xff\xff\xff\xff", "\xff\xff\xff\xff\x00\x00\x00\x00", "\x7f\x00\x00\x00\x80\x00\x00\x00", "\x80\x00\x00\x00\x7f\x00\x00\x00", "\x00\x00\x00\x00\x00\x00\x00\x00", "\x00\x00\x00\x00\x00\x00\x00\x01", "\x00\x00\x00\x01\x00\x00\x00\x00"}
	ids := []int{10, 9, 1 << 48, 0, 100, 1<<48 - 1, 1 << 32}
	for _, m := range []int{0, 2, 3, 8} {
		for turn := range 4 {
			b := newBoth(t, 64, m)
			seq := 0
			for i := range codes {
				for k := range ids {
					seq += 1 + turn
					c, id := codes[i], ids[(k*(turn+1))%len(ids)]
					b.say(api.Entry{Code: c, ID: id, Seq: seq, Dead: (i+k+turn)%3 == 0})
				}
			}
			b.sees("in order")
		}
	}
}

func TestTheLastWordCounts(t *testing.T) {
	// Few pairs, many words about them: puts and kills in every order of four, with Clear somewhere or not at all.
	pairs := []api.Pair{{ID: 1, Code: eight("a")}, {ID: 2, Code: eight("a")}, {ID: 1, Code: eight("b")}}
	for way := range 6 * 6 * 6 * 6 * 5 {
		b := newBoth(t, 64, 2)
		left := way / 5
		for turn := range 4 {
			if way%5 == turn {
				b.clear()
			}
			p := pairs[left%3]
			b.say(api.Entry{ID: p.ID, Code: p.Code, Seq: turn + 1, Dead: left/3%2 == 1})
			left /= 6
		}
		b.sees(fmt.Sprint("way ", way))
	}
}

func TestMadeUp(t *testing.T) {
	for round := range 600 {
		s := sample.From(1000 + round)
		w := 64 * (1 + s.Below(4))
		if round%10 == 0 {
			w = 64 * (1 + s.Below(16))
		}
		m := 0
		if s.Below(4) > 0 {
			m = w/32 + s.Below(w/8-w/32+1)
		}
		b := newBoth(t, w, m)
		codes := someCodes(s, w)
		for range 1 + s.Below(60) {
			b.say(someWord(s, b.o, codes))
			if s.Below(40) == 0 {
				b.clear()
			}
			if s.Below(12) == 0 {
				b.sees(fmt.Sprint("round ", round))
			}
		}
		b.sees(fmt.Sprint("the end of round ", round))
	}
}

// someCodes are a few codes, some of them near one another, so that they meet in tables.
func someCodes(s *sample.Source, w int) []string {
	var codes []string
	for len(codes) < 6 {
		code := s.Text(w / 8)
		codes = append(codes, code)
		near := []byte(code)
		near[s.Below(len(near))] ^= 1 << s.Below(8)
		codes = append(codes, string(near))
	}
	return codes
}

// someWord is mostly one that goes.
func someWord(s *sample.Source, o *model, codes []string) api.Entry {
	e := api.Entry{Code: codes[s.Below(len(codes))], ID: s.Below(4), Seq: o.last + 1 + s.Below(3), Dead: s.Below(3) == 0}
	switch s.Below(20) {
	case 0:
		e.Code = e.Code[1:]
	case 1:
		e.ID = edges[s.Below(len(edges))]
	case 2:
		e.Seq = o.last - s.Below(3)
	case 3:
		e.Code, e.ID = s.Text(len(e.Code)), -1
	}
	return e
}

func TestMany(t *testing.T) {
	for _, m := range []int{0, 2} {
		for _, gone := range []bool{false, true} {
			d := delta.New(64, m)
			say, name := d.Put, "Put"
			if gone {
				say, name = d.Kill, "Kill"
			}
			for i := range 65536 {
				if got := say(i+1, i/2, eight(string(rune('a'+i%2)))); got != api.OK {
					t.Fatalf("9.2: m %d: %s number %d is %d", m, name, i+1, got)
				}
			}
			full(t, d)
			d.Clear()
			if got := d.Put(65539, 70000, eight("c")); got != api.OK || d.Len() != 1 || len(d.Entries(0)) != 1 {
				t.Fatalf("9.5: m %d: behind Clear there is no room: %d, %d words", m, got, d.Len())
			}
		}
	}
}

// full: a delta with 65536 words, of 32768 ids with a and b, takes words about their pairs and no others, and tells all of them.
func full(t *testing.T, d *delta.Delta) {
	t.Helper()
	for _, c := range []struct {
		seq, id int
		code    string
		want    api.Errno
	}{
		{65537, 32768, eight("a"), api.ErrMany}, {65537, 0, eight("c"), api.ErrMany}, {65537, 1 << 48, eight("b"), api.ErrMany},
		{65536, 32768, eight("a"), api.ErrSeq}, {65536, 1<<48 + 1, eight("c"), api.ErrID}, {65536, -1, "c", api.ErrCode}, {1<<60 + 1, 0, eight("c"), api.ErrSeq},
	} {
		for _, call := range []func(seq, id int, code string) api.Errno{d.Put, d.Kill} {
			if got := call(c.seq, c.id, c.code); got != c.want {
				t.Fatalf("9.2: full: a word %d about %d, %s is %d, want %d", c.seq, c.id, c.code, got, c.want)
			}
		}
	}
	if _, ok := d.Word(0, eight("c")); ok || d.Len() != 65536 {
		t.Fatalf("9.2: full: a word that was refused is there, or there are %d", d.Len())
	}
	if x, y := d.Kill(65537, 7, eight("a")), d.Put(65538, 32767, eight("b")); x != api.OK || y != api.OK || d.Len() != 65536 {
		t.Fatalf("9.2: full: words about pairs that were spoken of are %d, %d; %d words", x, y, d.Len())
	}
	list := d.Entries(0)
	if len(list) != 65536 {
		t.Fatalf("9.4: full: %d entries", len(list))
	}
	for i, e := range list {
		id, code := i%32768, eight(string(rune('a'+i/32768)))
		if e.ID != id || e.Code != code {
			t.Fatalf("9.4: full: entry %d is %s", i, told(e))
		}
	}
	if got := d.Find(0, list[0].Value); !slices.Equal(got, with(list, list[0].Value)) {
		t.Fatalf("9.4: full: Find(0, %d) are %d words", list[0].Value, len(got))
	}
	if list[7].Seq != 65537 || !list[7].Dead || list[65535].Seq != 65538 || list[65535].Dead {
		t.Fatalf("9.6: full: the last words are %s and %s", told(list[7]), told(list[65535]))
	}
}

func TestClear(t *testing.T) {
	for _, m := range []int{0, 3} {
		b := newBoth(t, 64, m)
		b.clear()
		b.sees("cleared with no words")
		b.say(put(0, eight("a"), 1, 5))
		b.say(dead(0, eight("b"), 1, 6))
		b.clear()
		b.sees("cleared")
		b.clear()
		b.sees("cleared twice")
		for _, seq := range []int{1, 5, 6, 7} {
			b.say(put(0, eight("a"), 1, seq))
			b.say(dead(0, eight("a"), 2, seq))
		}
		b.sees("numbers go on")
		b.clear()
		b.say(put(0, eight("b"), 9, 8))
		b.sees("what was forgotten stays so")
	}
}

func TestDeltasAreApart(t *testing.T) {
	x, y := newBoth(t, 64, 8), newBoth(t, 64, 8)
	x.say(put(0, eight("a"), 1, 5))
	y.say(dead(0, eight("a"), 1, 3))
	y.say(put(0, eight("b"), 2, 4))
	x.sees("the first")
	y.sees("the second")
	x.clear()
	y.sees("the second, the first cleared")
	x.sees("the first, cleared")
}

// loose is a text whose bytes can be changed behind it, and what changes them.
func loose(s string) (string, func()) {
	b := []byte(s)
	return unsafe.String(&b[0], len(b)), func() {
		for i := range b {
			b[i] ^= 0x55
		}
	}
}

func TestNothingHandedInIsKept(t *testing.T) {
	for _, m := range []int{0, 2, 8} {
		b := newBoth(t, 64, m)
		// The first word about a pair, and further ones of either kind: none of the texts is kept.
		var changes []func()
		for i, gone := range []bool{false, false, true, false, true, true} {
			code, change := loose(eight("a"))
			call := b.d.Put
			if gone {
				call = b.d.Kill
			}
			e := api.Entry{Code: eight("a"), ID: i / 3, Seq: i + 1, Dead: gone}
			if got, want := call(i+1, i/3, code), b.o.say(e); got != want {
				t.Fatalf("9.2: word %d: %d, want %d", i+1, got, want)
			}
			changes = append(changes, change)
		}
		asked, change := loose(eight("a"))
		got, _ := b.d.Word(1, asked)
		for _, c := range append(changes, change) {
			c()
		}
		if got.Code != eight("a") {
			t.Errorf("R4: m %d: what Word answers shares the text that it was asked with", m)
		}
		b.sees("R4: the texts that were handed in are changed")
		b.say(put(0, eight("a"), 0, 9))
		b.sees("R4: a word further")
	}
}

// spoil changes all of a list, its spare room too.
func spoil(list []api.Entry) {
	list = list[:cap(list)]
	for i := range list {
		list[i] = api.Entry{Value: -9, Code: "spoilt", ID: -9, Seq: -9, Dead: !list[i].Dead}
	}
}

func TestAnswersAreNewMemory(t *testing.T) {
	for _, m := range []int{0, 2, 8} {
		b := newBoth(t, 64, m)
		s := sample.From(3)
		codes := someCodes(s, 64)
		for seq := range 50 {
			b.say(api.Entry{Code: codes[s.Below(len(codes))], ID: s.Below(9), Seq: seq + 1, Dead: s.Below(4) == 0})
		}
		for j := range b.o.tables() {
			for _, e := range b.o.entries(j) {
				first, second := b.d.Find(j, e.Value), b.d.Find(j, e.Value)
				spoil(first)
				if want := b.o.find(j, e.Value); !slices.Equal(second, want) {
					t.Fatalf("9.4: two answers of Find(%d, %d) share memory", j, e.Value)
				}
			}
			first, second := b.d.Entries(j), b.d.Entries(j)
			spoil(first)
			if !slices.Equal(second, b.o.entries(j)) {
				t.Fatalf("9.4: two answers of Entries(%d) share memory", j)
			}
		}
		b.sees("answers of Find and Entries are changed")
		clustersApart(t, b)
		b.sees("answers of Codes are changed")
	}
}

// clustersApart: no two lists in an answer of Codes share memory, nor do two answers.
func clustersApart(t *testing.T, b *both) {
	t.Helper()
	want := b.o.codes()
	first, second := b.d.Codes(), b.d.Codes()
	for i := range first {
		ids := first[i].IDs[:cap(first[i].IDs)]
		for k := range ids {
			ids[k] = -9
		}
		if i+1 < len(first) && !alike(first[i+1:], want[i+1:]) {
			t.Fatalf("9.4: the IDs of clusters %d and further share memory", i)
		}
	}
	first = first[:cap(first)]
	for i := range first {
		first[i] = api.Cluster{Code: "spoilt"}
	}
	if !alike(second, want) {
		t.Fatalf("9.4: two answers of Codes share memory")
	}
}

func TestAsOftenAsAsked(t *testing.T) {
	// A map's order differs from one walk to the next: no answer does.
	b := newBoth(t, 64, 3)
	s := sample.From(4)
	codes := someCodes(s, 64)
	for seq := range 300 {
		b.say(api.Entry{Code: codes[s.Below(len(codes))], ID: s.Below(40), Seq: seq + 1, Dead: s.Below(4) == 0})
	}
	for range 20 {
		b.sees("asked again")
	}
}

func TestWhereThereIsNone(t *testing.T) {
	var none *delta.Delta
	for name, d := range map[string]*delta.Delta{"nil": none, "unmade": {}} {
		for _, n := range edges {
			for _, code := range []string{"", "a", eight("a")} {
				if x, y := d.Put(n, n, code), d.Kill(n, n, code); x != api.ErrCode || y != api.ErrCode {
					t.Errorf("R1: %s: Put, Kill of %d, %d, %q are %d, %d", name, n, n, code, x, y)
				}
				if e, ok := d.Word(n, code); ok || e != (api.Entry{}) {
					t.Errorf("R1: %s: Word(%d, %q) is %s, %v", name, n, code, told(e), ok)
				}
			}
			if len(d.Find(n, n))+len(d.Find(0, n))+len(d.Entries(n)) > 0 {
				t.Errorf("R1: %s: Find or Entries of %d tell something", name, n)
			}
		}
		d.Clear()
		if d.Len()+len(d.Codes())+len(d.Entries(0)) > 0 || d.Put(1, 1, "") != api.ErrCode {
			t.Errorf("R1: %s: there are words", name)
		}
	}
}
