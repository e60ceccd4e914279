package keep_test

import (
	"fmt"
	"maps"
	"math"
	"slices"
	"strings"
	"testing"
	"unsafe"

	"kindred/api"
	"kindred/disk"
	"kindred/journal"
	"kindred/keep"
	"kindred/run"
)

var eight = api.Opts{Width: 64, Chunks: 8, Mode: api.Chunked}

var treed = api.Opts{Width: 64, Mode: api.Treed}

// edges are numbers with which sums wrap, and those beside the limits.
var edges = []int{math.MinInt, math.MinInt + 1, -1 << 60, -2, -1, 0, 1, 2, 3, 1<<40 - 1, 1 << 40, 1<<40 + 1, 1<<48 - 1, 1 << 48, 1<<48 + 1, 1<<60 - 1, 1 << 60, 1<<60 + 1, 1 << 62, math.MaxInt - 1, math.MaxInt}

// z is eight bytes, the last one c, the others 0.
func z(c byte) string { return "\x00\x00\x00\x00\x00\x00\x00" + string([]byte{c}) }

// loose is a text whose bytes can be changed behind a call's back.
func loose(b []byte) string { return unsafe.String(&b[0], len(b)) }

func answers(t *testing.T, what string, got, want api.Errno) {
	t.Helper()
	if got != want {
		t.Fatalf("%s: %d, want %d", what, got, want)
	}
}

// short is pairs of codes that begin with noughts, in words.
func short(list []api.Pair) string {
	var words []string
	for _, p := range list {
		words = append(words, fmt.Sprint(p.ID, " ", p.Code[7]))
	}
	return strings.Join(words, ", ")
}

func TestExamples(t *testing.T) {
	b := bothOn(t, "the examples", 100000)
	is := func(what string, got, want any) {
		t.Helper()
		if fmt.Sprint(got) != fmt.Sprint(want) {
			t.Fatalf("the chapter's examples: %s: %v, want %v", what, got, want)
		}
	}
	run2 := "r2.0 r2.1 r2.2 r2.3 r2.4 r2.5 r2.6 r2.7"
	names := func() string { return strings.Join(b.d.Names(), " ") }
	answers(t, "15.5: an empty disk", b.open(), api.ErrNone)
	answers(t, "15.4: width 63", b.create(api.Opts{Width: 63, Chunks: 8, Mode: 1}), api.ErrWidth)
	answers(t, "15.4: Create", b.create(eight), api.OK)
	answers(t, "15.4: Create again", b.create(eight), api.ErrTaken)
	is("names", names(), "j1 manifest")
	is("updates", []api.Errno{b.insert(5, z(0)), b.insert(5, z(1)), b.insert(-1, z(0)), b.insert(6, "x"), b.delete(6)}, []api.Errno{api.OK, api.ErrTwice, api.ErrID, api.ErrCode, api.ErrGone})
	code, e := b.k.Get(5)
	_, gone := b.k.Get(6)
	is("Get", []any{code == z(0), int(e), int(gone)}, []any{true, 0, 131})
	is("updates", []api.Errno{b.insert(6, z(0)), b.insert(7, z(3)), b.delete(5)}, []api.Errno{0, 0, 0})
	n, some := b.k.Waits()
	is("numbers", []any{b.k.Count(), b.k.Codes(), short(b.k.Pairs(0, 9)), b.k.Seq(), b.k.Synced(), n, some}, []any{2, 2, "6 0, 7 3", 4, 0, 3, true})
	at, _ := b.k.At(7, 0)
	none, _ := b.k.At(8, 0)
	is("Values, At", []any{b.k.Values(7), short(at), len(none)}, []any{"[0 3]", "6 0", 0})
	answers(t, "15.10: Flush", b.flush(), api.OK)
	is("names", names(), "j3 manifest "+run2)
	is("Seen", fmt.Sprintf("%+v", b.k.Seen()), "{Opts:{Width:64 Chunks:8 Mode:1} Seq:4 Next:4 Journal:3 Runs:[{Number:2 Lo:0 Hi:4 Count:3}]}")
	writes := b.d.Writes()
	answers(t, "15.10: Flush of nothing", b.flush(), api.OK)
	is("writes", b.d.Writes(), writes)
	tail, ok := b.k.Tail(4)
	_, older := b.k.Tail(3)
	is("Tail", []any{len(tail), ok, older}, []any{0, true, false})
	answers(t, "15.8: Delete", b.delete(6), api.OK)
	b.crash(nil)
	answers(t, "15.5: Open", b.open(), api.OK)
	is("what was synced", []any{b.k.Count(), b.k.Seq()}, []any{2, 4})
	is("Reset", []api.Errno{b.reset(9, []api.Pair{{ID: 2, Code: z(1)}, {ID: 8, Code: z(3)}})}, []api.Errno{0})
	is("Seen", fmt.Sprintf("%+v", b.k.Seen()), "{Opts:{Width:64 Chunks:8 Mode:1} Seq:9 Next:6 Journal:5 Runs:[{Number:4 Lo:7 Hi:9 Count:2}]}")
	is("behind Reset", []any{b.k.Seq(), b.k.Count(), names()}, []any{9, 2, "j5 manifest " + strings.ReplaceAll(run2, "r2", "r4")})
	is("Reset", []api.Errno{b.reset(9, nil), b.reset(10, []api.Pair{{ID: 2, Code: z(1)}, {ID: 2, Code: z(3)}}), b.reset(1, []api.Pair{{ID: 2, Code: z(1)}, {ID: 8, Code: z(3)}})}, []api.Errno{api.ErrSeq, api.ErrOrder, api.ErrSeq})
	b = bothOn(t, "files that were left", 100000)
	b.disks(func(d *disk.Disk) {
		for _, name := range []string{"j9", "r3.0", "notes"} {
			put(d, name, "x")
		}
	})
	answers(t, "15.4: Create", b.create(eight), api.OK)
	is("names", names(), "j1 manifest notes")
}

func TestCreateRefuses(t *testing.T) {
	taken, off := "", "off"
	for _, o := range []api.Opts{eight, treed, {Width: 63, Chunks: 8, Mode: 1}, {Width: 64, Chunks: 9, Mode: 1}, {Width: 64, Chunks: 1, Mode: 1}, {Width: 64, Chunks: 1, Mode: 2}, {Width: 64, Chunks: 8}, {Width: 1088, Mode: 3, Chunks: -1}, {Width: 1024, Chunks: 128, Mode: 1}, {Width: 1024, Mode: 2}} {
		for _, how := range []string{"empty", taken, off} {
			b := bothOn(t, fmt.Sprintf("%+v, %q", o, how), 9999)
			b.disks(func(d *disk.Disk) {
				put(d, "j4", "x")
				if how == taken {
					put(d, "manifest", "no manifest at all")
				}
				if how == off {
					d.Arm(1, false)
					d.Create("x")
				}
			})
			was := seenOf(b.d)
			if e := b.create(o); e != api.OK && seenOf(b.d) != was {
				t.Fatalf("15.4: %s: a refusal has written", b.where)
			}
			if how == off {
				if e := b.open(); e != api.ErrDown {
					t.Fatalf("15.5: %s: %d", b.where, e)
				}
			}
		}
	}
	for _, n := range edges {
		for _, o := range []api.Opts{{Width: n, Chunks: 8, Mode: 1}, {Width: 64, Chunks: n, Mode: 1}, {Width: 64, Chunks: n, Mode: 2}, {Width: 64, Chunks: 8, Mode: n}, {Width: 64, Mode: n}} {
			bothOn(t, fmt.Sprintf("%+v", o), 9999).create(o)
		}
	}
}

// TestNames: which files are taken away, and which are nobody's business.
func TestNames(t *testing.T) {
	strays := []string{"j1", "j2", "j01", "j0", "j", "j1099511627776", "j1099511627777", "jx", "r1.0", "r1.127", "r1.128", "r1.00", "r1", "r0.1", "r01.1", "r2.9", "r1099511627776.5", "r1.1.1", "manifest.new", "manifest.old", "manifests", "notes", "r.1", "r2.", "a"}
	for _, o := range []api.Opts{eight, treed} {
		b := bothOn(t, fmt.Sprintf("%+v", o), 99999)
		lay := func() {
			b.disks(func(d *disk.Disk) {
				for _, name := range strays {
					d.Create(name)
				}
			})
		}
		lay()
		answers(t, "15.4: Create among other files", b.create(o), api.OK)
		for range 3 {
			b.insert(b.k.Count(), z(byte(b.k.Count())))
			b.flush()
		}
		lay()
		answers(t, "15.5: Open among other files", b.open(), api.OK)
		b.twice()
	}
}

// TestUpdates: the refusals of updates, at the edges, in their order.
func TestUpdates(t *testing.T) {
	for _, o := range []api.Opts{eight, treed, {Width: 128, Chunks: 5, Mode: 1}} {
		b := bothOn(t, fmt.Sprintf("%+v", o), 1<<20)
		b.create(o)
		long := strings.Repeat("\x01", o.Width/8)
		b.insert(3, long)
		for _, id := range append([]int{3, 4}, edges...) {
			for _, code := range []string{"", "x", long[1:], long, long + "x", long + long} {
				was := b.d.Writes()
				if e := b.insert(id, code); e == api.OK {
					if b.d.Writes() != was+1 {
						t.Fatalf("15.7: an Insert of %d writes", b.d.Writes()-was)
					}
					b.insert(id, code)
					b.insert(id, "")
					b.delete(id)
				}
				b.delete(id)
				b.insert(3, long)
			}
		}
		b.flush()
		for _, id := range edges {
			b.delete(id)
		}
		b.twice()
	}
}

// TestEveryWidth: chunks of all kinds of widths.
func TestEveryWidth(t *testing.T) {
	for w := 64; w <= 1024; w += 192 {
		for _, o := range []api.Opts{{Width: w, Chunks: w / 32, Mode: 1}, {Width: w, Chunks: w / 8, Mode: 1}, {Width: w, Chunks: w/32 + 1, Mode: 1}, {Width: w, Mode: 2}} {
			g := from(w)
			b := bothOn(t, fmt.Sprintf("%+v", o), 1<<24)
			b.create(o)
			for i := range 12 {
				b.insert(i, g.Text(w/8))
				b.insert(i+20, b.k.Pairs(i, 1)[0].Code)
				if i%5 == 4 {
					b.delete(i)
					b.flush()
				}
			}
			b.twice()
		}
	}
}

// TestManyPairs: what is asked between many updates, seldom or often, is in order; held against a map.
func TestManyPairs(t *testing.T) {
	for _, every := range []int{1, 7, 500, 5000, 1 << 30} {
		g := from(every)
		o := []api.Opts{{Width: 64, Chunks: 2, Mode: 1}, treed, eight}[every%3]
		k, e := keep.Create(disk.New(1<<26), o)
		answers(t, "15.4: Create", e, api.OK)
		want := map[int]string{}
		updates := 9000
		if every < 500 {
			updates = 300 * every
		}
		for i := range updates {
			id := g.Below(updates / 4)
			if _, lives := want[id]; lives {
				answers(t, "15.8: Delete", k.Delete(id), api.OK)
				delete(want, id)
			} else {
				code := z(byte(g.Below(5)))
				if g.Below(2) == 0 {
					code = g.Text(8)
				}
				answers(t, "15.7: Insert", k.Insert(id, code), api.OK)
				want[id] = code
			}
			if i%every == every-1 || i == updates-1 {
				inOrder(t, k, o, want)
			}
		}
		for id := range want { // and down to none
			answers(t, "15.8: Delete", k.Delete(id), api.OK)
			delete(want, id)
			if len(want)%100 == 0 {
				inOrder(t, k, o, want)
			}
		}
	}
}

// inOrder: all questions about these pairs.
func inOrder(t *testing.T, k *keep.Keep, o api.Opts, want map[int]string) {
	t.Helper()
	s := state{m: api.Manifest{Opts: o}, pairs: want}
	list := s.list()
	if !slices.Equal(k.Pairs(math.MinInt, math.MaxInt), list) || k.Count() != len(list) {
		t.Fatalf("15.6: Pairs of %d", len(list))
	}
	middle := len(list) / 2
	if len(list) > 0 && !slices.Equal(k.Pairs(list[middle].ID, 10), list[middle:min(middle+10, len(list))]) {
		t.Fatalf("15.6: ten Pairs of %d", len(list))
	}
	slices.SortStableFunc(list, func(a, b api.Pair) int { return strings.Compare(a.Code, b.Code) })
	for j := range s.tables() {
		have := map[int][]api.Pair{}
		for _, p := range list {
			v := s.value(j, p.Code)
			have[v] = append(have[v], p)
		}
		if got := k.Values(j); !slices.Equal(got, slices.Sorted(maps.Keys(have))) {
			t.Fatalf("15.6: Values(%d) of %d pairs: %d, want %d", j, len(list), len(got), len(have))
		}
		asked := 0
		for v, pairs := range have {
			if got, e := k.At(j, v); e != api.OK || !slices.Equal(got, pairs) {
				t.Fatalf("15.6: At(%d, %d) of %d pairs: %d, want %d", j, v, len(list), len(got), len(pairs))
			}
			if asked++; asked > 20 {
				break
			}
		}
	}
	codes := map[string]int{}
	for _, p := range list {
		codes[p.Code]++
	}
	if k.Codes() != len(codes) {
		t.Fatalf("15.6: %d Codes, want %d", k.Codes(), len(codes))
	}
}

// TestNewMemory: what is answered and what is handed in may be changed.
func TestNewMemory(t *testing.T) {
	for _, o := range []api.Opts{eight, treed} {
		b := bothOn(t, fmt.Sprintf("%+v", o), 1<<20)
		b.create(o)
		code := []byte(z(3))
		b.insert(1, loose(code))
		b.insert(2, loose(code))
		code[7] = 9
		b.agree("a code was changed that had been handed in")
		b.flush()
		b.insert(4, z(1))
		b.delete(1)
		spoil := func() {
			for _, p := range [][]api.Pair{b.k.Pairs(0, 99), b.k.Pairs(2, 1)} {
				for i := range p {
					p[i] = api.Pair{ID: -7, Code: "changed"}
				}
				_ = append(p, api.Pair{})
			}
			for j := range 8 {
				values := b.k.Values(j)
				for i := range values {
					values[i] = -7
					list, _ := b.k.At(j, values[i])
					clear(list)
				}
				list, _ := b.k.At(j, 0)
				clear(list)
			}
			tail, _ := b.k.Tail(2)
			clear(tail)
			_ = append(tail, api.Update{})
			clear(b.k.Runs())
			seen := b.k.Seen()
			clear(seen.Runs)
			_ = append(seen.Runs, api.RunInfo{})
			b.agree("answers were changed")
		}
		spoil()
		pairs := make([]api.Pair, 2, 9)
		pairs[0], pairs[1] = api.Pair{ID: 5, Code: loose(code)}, api.Pair{ID: 6, Code: loose(code)}
		spare := pairs[:9]
		spare[5].ID = 77
		was := slices.Clone(spare)
		was[0].Code, was[1].Code = z(9), z(9)
		b.reset(50, pairs)
		if !slices.Equal(spare, was) {
			t.Errorf("15.14: Reset has changed what it was handed")
		}
		code[7] = 3
		clear(spare)
		b.agree("pairs were changed that had been handed in")
		b.insert(7, z(1))
		b.flush()
		spoil()
		b.twice()
		spoil()
	}
}

// TestNobodysKeep: calls on what neither Create nor Open has made end, and so do Create and Open without a disk.
func TestNobodysKeep(t *testing.T) {
	for _, k := range []*keep.Keep{nil, {}} {
		_, g := k.Get(0)
		_, a := k.At(0, 0)
		_, f := k.Flush()
		_, n := k.Number()
		for i, e := range []api.Errno{k.Insert(0, z(0)), k.Delete(0), g, a, k.Sync(), f, n, k.Swap(0, nil), k.Swap(1, nil), k.Reset(1, nil)} {
			answers(t, fmt.Sprint("call ", i, " on no keep"), e, api.ErrDown)
		}
		tail, _ := k.Tail(0)
		waits, some := k.Waits()
		if k.Count()+k.Codes()+k.Seq()+k.Synced()+waits+len(k.Pairs(0, 9))+len(k.Values(0))+len(k.Runs())+len(tail)+len(k.Seen().Runs) != 0 || some || k.Disk() != nil {
			t.Errorf("no keep tells something")
		}
	}
	for _, d := range []*disk.Disk{nil, {}} {
		if k, e := keep.Create(d, eight); k != nil || e != api.ErrDown {
			t.Errorf("15.4: without a disk: %d", e)
		}
		if k, e := keep.Create(d, api.Opts{}); k != nil || e != api.ErrWidth {
			t.Errorf("15.4: without a disk and a width: %d", e)
		}
		if k, e := keep.Open(d); k != nil || e != api.ErrDown {
			t.Errorf("15.5: without a disk: %d", e)
		}
	}
}

// TestTail: updates between flushes.
func TestTail(t *testing.T) {
	b := bothOn(t, "tails", 1<<20)
	b.create(treed)
	for i := range 10 {
		b.insert(i, z(byte(i)))
		if i%4 == 3 {
			b.delete(i - 1)
			b.flush()
		}
		if i%3 == 2 {
			b.twice()
		}
	}
	if list, ok := b.k.Tail(10); !ok || !slices.Equal(list, []api.Update{{Seq: 11, Kind: 1, ID: 8, Code: z(8)}, {Seq: 12, Kind: 1, ID: 9, Code: z(9)}}) {
		t.Errorf("15.11: Tail(10): %v, %v", list, ok)
	}
}

// TestSwaps: which runs may stand in the place of which.
func TestSwaps(t *testing.T) {
	b := bothOn(t, "swaps", 1<<20)
	b.create(treed)
	for i := range 5 {
		b.insert(i, z(byte(i)))
		b.insert(i+10, z(1))
		b.flush()
	}
	foreign := func(info api.RunInfo) *run.Run {
		d := disk.New(9999)
		answers(t, "14.2: Write", run.Write(d, info.Number, treed, info, []api.Entry{{Code: z(0), ID: 1, Seq: info.Lo + 1}}), api.OK)
		info.Count = 1
		r, e := run.Open(d, treed, info)
		answers(t, "14.4: Open", e, api.OK)
		return r
	}
	good := foreign(api.RunInfo{Number: 50, Lo: 0, Hi: 4})
	for _, n := range edges {
		if n == 0 || n > 0 && n <= 5 {
			continue
		}
		answers(t, "15.13: Swap of so many", b.swap(n, nil), api.ErrRange)
		answers(t, "15.13: Swap of so many", b.swap(n, good), api.ErrRange)
	}
	answers(t, "15.13: Swap(6)", b.swap(6, nil), api.ErrRange)
	answers(t, "15.13: Swap(0, a run)", b.swap(0, good), api.ErrRange)
	writes := b.d.Writes()
	answers(t, "15.13: Swap(0, nil)", b.swap(0, nil), api.OK)
	for n := 1; n <= 5; n++ {
		for lo := range 4 {
			for hi := lo + 1; hi <= 11; hi++ {
				if lo != 0 || hi != 2*n {
					answers(t, "15.13: another Lo or Hi", b.swap(n, foreign(api.RunInfo{Number: 50, Lo: lo, Hi: hi})), api.ErrSeq)
				}
			}
		}
	}
	answers(t, "15.13: a run that nobody opened", b.swap(1, &run.Run{}), api.ErrSeq)
	if b.d.Writes() != writes {
		t.Errorf("15.13: a refused Swap has written")
	}
	// What manifest.Store refuses comes through: a number that nobody took, and the journal's.
	answers(t, "15.13: a number that is not there yet", b.swap(2, good), api.ErrCorrupt)
	answers(t, "15.13: the journal's number", b.swap(2, foreign(api.RunInfo{Number: b.k.Seen().Journal, Lo: 0, Hi: 4})), api.ErrCorrupt)
	for _, n := range []int{2, 1, 3, 1, 1} {
		answers(t, "15.13: Swap", b.merge(n), api.OK)
		b.twice()
	}
	for _, p := range b.k.Pairs(0, 99) {
		b.delete(p.ID)
	}
	b.flush()
	answers(t, "15.13: Swap of all for none", b.merge(len(b.k.Runs())), api.OK)
	if names := fmt.Sprint(b.d.Names()); names != fmt.Sprintf("[%s manifest]", jname(b.k.Seen().Journal)) {
		t.Errorf("15.13: files are left: %s", names)
	}
	b.twice()
}

// TestNumbersAreTold: a number that was taken is in the next manifest, whichever call stores it.
func TestNumbersAreTold(t *testing.T) {
	for i, store := range []func(b *both){func(b *both) { b.flush() }, func(b *both) { b.reset(9, nil) }, func(b *both) { b.swap(1, nil) }} {
		b := bothOn(t, fmt.Sprint("numbers ", i), 1<<20)
		b.create(treed)
		b.insert(1, z(1))
		b.flush()
		b.delete(1)
		if i == 2 {
			b.flush()
			b.swap(2, nil)
			b.insert(1, z(1))
			b.delete(1)
			b.flush()
		}
		b.number()
		writes := b.d.Writes()
		n := b.number()
		if b.d.Writes() != writes || b.k.Seen().Next != n+1 {
			t.Errorf("15.12: Number has written, or Next is not told")
		}
		b.open() // nothing was written: the numbers are not taken
		for range 3 {
			n = b.number()
		}
		store(b)
		if m := b.k.Seen(); m.Next <= n {
			t.Errorf("15.12: %d: Next is %d behind the number %d", i, m.Next, n)
		}
		b.twice()
	}
}

// TestResets: the refusals, and what stands behind a Reset.
func TestResets(t *testing.T) {
	for _, o := range []api.Opts{eight, treed} {
		b := bothOn(t, fmt.Sprintf("%+v", o), 1<<20)
		b.create(o)
		b.insert(1, z(1))
		b.insert(2, z(2))
		b.flush()
		b.insert(3, z(3))
		good := []api.Pair{{ID: 0, Code: z(4)}, {ID: 7, Code: z(4)}, {ID: 1 << 48, Code: z(0)}}
		for _, seq := range edges {
			if seq > 3 && seq <= 1<<60 {
				continue
			}
			answers(t, "15.14: a number that does not go", b.reset(seq, good), api.ErrSeq)
			answers(t, "15.14: a number that does not go", b.reset(seq, nil), api.ErrSeq)
		}
		for i := range good {
			for _, id := range append([]int{6, 7, 8}, edges...) {
				for _, seq := range []int{0, 4, 9} {
					for _, code := range []string{"", z(1)[1:], z(1) + "x", z(1)} {
						list := slices.Clone(good)
						list[i] = api.Pair{ID: id, Code: code}
						if seq == 9 && code == z(1) && id >= 0 && id <= 1<<48 && (i == 0 || id > list[i-1].ID) && (i == 2 || id < list[i+1].ID) {
							continue // that goes
						}
						if b.reset(seq, list) == api.OK {
							seq += b.k.Seq()
						}
					}
				}
			}
		}
		b = bothOn(t, "Resets", 1<<20)
		b.create(o)
		answers(t, "15.14: more pairs than updates", b.reset(2, good), api.ErrSeq)
		answers(t, "15.14: as many pairs as updates", b.reset(3, good), api.OK)
		b.twice()
		b.delete(7)
		b.flush()
		b.insert(7, z(7))
		answers(t, "15.14: the next number", b.reset(6, good[:1]), api.OK)
		answers(t, "15.14: the next number", b.reset(7, nil), api.OK)
		answers(t, "15.14: the last number", b.reset(1<<60, good), api.OK)
		b.twice()
		answers(t, "15.14: behind the last number", b.reset(1<<60, good), api.ErrSeq)
		answers(t, "15.7: behind the last number", b.insert(9, z(9)), api.ErrWorn)
	}
}

// TestResetOfMany: pairs of few codes, in no order of these.
func TestResetOfMany(t *testing.T) {
	for _, o := range []api.Opts{eight, treed} {
		g := from(o.Mode)
		want := map[int]string{}
		for len(want) < 3000 {
			want[g.Below(1<<40)] = z(byte(g.Below(7)))
		}
		s := state{pairs: want}
		d := disk.New(1 << 20)
		k, _ := keep.Create(d, o)
		answers(t, "15.14: Reset", k.Reset(5000, s.list()), api.OK)
		inOrder(t, k, o, want)
		for i, e := range k.Runs()[0].All(0) {
			if p := s.list()[e.Seq-2001]; p != (api.Pair{ID: e.ID, Code: e.Code}) || e.Dead {
				t.Fatalf("15.14: entry %d: %s, want %s", i, told(e), told(p))
			}
			if i == 20 {
				break
			}
		}
		again, e := keep.Open(d)
		answers(t, "15.15: Open", e, api.OK)
		inOrder(t, again, o, want)
	}
}

// TestJournalGone: a file that somebody else took away is told, and what the manifest names counts all the same.
func TestJournalGone(t *testing.T) {
	for _, reset := range []bool{false, true} {
		d := disk.New(9999)
		k, _ := keep.Create(d, treed)
		k.Insert(1, z(1))
		d.Delete("j1")
		if reset {
			answers(t, "15.14: Reset", k.Reset(9, []api.Pair{{ID: 1, Code: z(1)}}), api.ErrNone)
		} else if some, e := k.Flush(); some || e != api.ErrNone {
			t.Errorf("15.10: Flush: %v, %d", some, e)
		}
		k.Insert(2, z(2))
		again, e := keep.Open(d)
		if e != api.OK || again.Count() != 2 || k.Count() != 2 || again.Seq() != k.Seq() || fmt.Sprint(again.Seen()) != fmt.Sprint(k.Seen()) {
			t.Errorf("15.15: Open: %d", e)
		}
	}
}

// TestNamesInTheWay: files of the names that a Flush or a Reset wants stay, and what was made is taken away.
func TestNamesInTheWay(t *testing.T) {
	for _, name := range []string{"r4.0", "r4.1", "j5"} {
		for n := range 12 {
			b := bothOn(t, fmt.Sprintf("%s in the way, cut at %d", name, n), 9999)
			b.create(api.Opts{Width: 64, Chunks: 2, Mode: 1})
			b.insert(1, z(1))
			b.flush()
			b.insert(2, z(2))
			b.disks(func(d *disk.Disk) { put(d, name, "in the way") })
			was := b.d.Image()
			b.arm(n, n%2 == 0)
			if n > 0 {
				b.flush()
				continue
			}
			answers(t, "15.10: Flush", b.flush(), api.ErrExists)
			answers(t, "15.14: Reset", b.reset(9, []api.Pair{{ID: 5, Code: z(5)}}), api.ErrExists)
			if b.d.Image() != was {
				t.Errorf("15.10: files are left: %q", b.d.Names())
			}
			answers(t, "15.5: Open", b.open(), api.OK)
			b.twice()
		}
	}
}

// journalOf is a journal's bytes.
func journalOf(t *testing.T, updates ...api.Update) string {
	t.Helper()
	var b strings.Builder
	for _, u := range updates {
		frame, e := journal.Write(u)
		answers(t, "5.2: Write", e, api.OK)
		b.WriteString(frame)
	}
	return b.String()
}
