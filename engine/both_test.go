package engine_test

import (
	"cmp"
	"fmt"
	"math"
	"slices"
	"strings"
	"testing"

	"kindred/api"
	"kindred/compact"
	"kindred/disk"
	"kindred/engine"
	"kindred/keep"
	"kindred/probe"
)

// both is an engine and, on another disk, a keep with a compactor, which are all that an engine may write; every update is made on both. Questions are held against a plain look at the pairs that the accepted updates make.
type both struct {
	t      *testing.T
	where  string
	quiet  bool // nothing else is looked at behind a call
	d      *disk.Disk
	other  *disk.Disk
	e      *engine.Engine
	k      *keep.Keep
	c      *compact.Compactor
	closed bool
	pairs  map[int]string
	past   history
	asked  int // so often questions were asked: each time for one code, and now and then wrong ones
}

func bothOn(t *testing.T, where string, capacity int) *both {
	return &both{t: t, where: where, d: disk.New(capacity), other: disk.New(capacity)}
}

// bothOver are over a new store.
func bothOver(t *testing.T, where string, o api.Opts) *both {
	t.Helper()
	b := bothOn(t, where, 1<<20)
	b.must("Create", b.create(o))
	return b
}

// bothOf are over disks with this image, and so much room.
func bothOf(t *testing.T, where, image string, capacity int) *both {
	t.Helper()
	b := bothOn(t, where, 0)
	for _, d := range []**disk.Disk{&b.d, &b.other} {
		x, e := disk.Open(image, capacity)
		if e != api.OK {
			t.Fatalf("4.3: %s: %d", where, e)
		}
		*d = x
	}
	return b
}

// disks does something to both.
func (b *both) disks(do func(d *disk.Disk)) {
	do(b.d)
	do(b.other)
}

func (b *both) arm(n int, done bool) { b.disks(func(d *disk.Disk) { d.Arm(n, done) }) }

func (b *both) crash(cuts []api.Cut) { b.disks(func(d *disk.Disk) { d.Crash(cuts) }) }

// must: a call was not refused.
func (b *both) must(what string, e api.Errno) {
	b.t.Helper()
	if e != api.OK {
		b.t.Fatalf("%s: %s: %d", b.where, what, e)
	}
}

func (b *both) create(o api.Opts) api.Errno {
	b.t.Helper()
	e, got := engine.Create(b.d, o)
	k, want := keep.Create(b.other, o)
	return b.made("Create", e, k, got, want)
}

func (b *both) open() api.Errno {
	b.t.Helper()
	e, got := engine.Open(b.d)
	k, want := keep.Open(b.other)
	return b.made("Open", e, k, got, want)
}

// made takes an engine up, if there is one.
func (b *both) made(what string, e *engine.Engine, k *keep.Keep, got, want api.Errno) api.Errno {
	b.t.Helper()
	if (e != nil) != (got == api.OK) {
		b.t.Fatalf("17.1: %s: %s: %d, and an engine: %v", b.where, what, got, e != nil)
	}
	if got == api.OK && want == api.OK {
		b.e, b.k, b.c, b.closed = e, k, compact.New(k), false
		b.pairs = map[int]string{}
		for _, p := range k.Pairs(0, math.MaxInt) {
			b.pairs[p.ID] = p.Code
		}
		if what == "Create" {
			b.past = history{}
			b.past.add(b)
			b.past.settle()
		}
	}
	return b.held("17.1", what, got, want)
}

func (b *both) insert(id int, code string) api.Errno {
	b.t.Helper()
	want := b.k.Insert(id, code)
	got := b.e.Insert(id, code)
	if want == api.OK {
		b.pairs[id] = code
		b.past.add(b)
	}
	return b.held("17.4", fmt.Sprintf("Insert(%d, %q)", id, code), got, want)
}

func (b *both) delete(id int) api.Errno {
	b.t.Helper()
	want := b.k.Delete(id)
	got := b.e.Delete(id)
	if want == api.OK {
		delete(b.pairs, id)
		b.past.add(b)
	}
	return b.held("17.4", fmt.Sprintf("Delete(%d)", id), got, want)
}

func (b *both) sync() api.Errno {
	b.t.Helper()
	want := b.k.Sync()
	if want == api.OK {
		b.past.settle()
	}
	return b.held("17.4", "Sync", b.e.Sync(), want)
}

func (b *both) step() (bool, api.Errno) {
	b.t.Helper()
	_, waits := b.k.Waits()
	wanted, want := b.c.Step()
	done, got := b.e.CompactStep()
	if done != wanted {
		b.t.Fatalf("17.4: %s: CompactStep: %v, %d, want %v, %d", b.where, done, got, wanted, want)
	}
	if _, still := b.k.Waits(); want == api.OK && waits && !still {
		b.past.settle()
	}
	return done, b.held("17.4", "CompactStep", got, want)
}

func (b *both) close() api.Errno {
	b.t.Helper()
	want := b.k.Sync()
	if want == api.OK {
		b.past.settle()
	}
	got := b.e.Close()
	b.closed = true
	return b.held("17.3", "Close", got, want)
}

// held: a call answered as it should, the disks are alike, and all questions are answered as they should be.
func (b *both) held(promise, what string, got, want api.Errno) api.Errno {
	b.t.Helper()
	if got != want {
		b.t.Fatalf("%s: %s: %s: %d, want %d", promise, b.where, what, got, want)
	}
	if b.quiet {
		return got
	}
	if x, y := seenOf(b.d), seenOf(b.other); x != y {
		b.t.Fatalf("%s: %s: %s: the disk is\n%s\nwant\n%s", promise, b.where, what, short(x), short(y))
	}
	if b.e != nil {
		b.agree(what)
	}
	return got
}

// off: the power is off, or what there was ahead of a power cut is given up.
func (b *both) off() bool {
	_, e := b.k.At(-1, 0)
	return e == api.ErrDown
}

// agree: the engine tells what it should, and writes nothing by that.
func (b *both) agree(what string) {
	b.t.Helper()
	was := seenOf(b.d)
	b.figures(what)
	switch {
	case b.closed:
		b.gone(what, api.ErrClosed)
	case b.off():
		b.gone(what, api.ErrDown)
	default:
		b.questions(what)
	}
	if seenOf(b.d) != was {
		b.t.Fatalf("17.5: %s: behind %s: a question has written", b.where, what)
	}
}

func (b *both) is(promise, what string, got, want any) {
	b.t.Helper()
	if x, y := fmt.Sprintf("%+v", got), fmt.Sprintf("%+v", want); x != y {
		b.t.Fatalf("%s: %s: behind %s: %q, want %q", promise, b.where, what, short(x), short(y))
	}
}

// figures: what an engine tells in every state.
func (b *both) figures(what string) {
	b.t.Helper()
	codes := map[string]int{}
	for _, code := range b.pairs {
		codes[code]++
	}
	b.is("17.8", what+": Count", b.e.Count(), len(b.pairs))
	b.is("17.8", what+": Codes", b.e.Codes(), len(codes))
	b.is("17.8", what+": Seq", b.e.Seq(), b.k.Seq())
	b.is("17.8", what+": Synced", b.e.Synced(), b.k.Synced())
	b.is("17.8", what+": Opts", b.e.Opts(), b.k.Seen().Opts)
	seen := b.k.Seen().Seq
	for _, from := range []int{math.MinInt, -1, 0, seen - 1, seen, seen + 1, b.k.Seq(), b.k.Seq() + 1, math.MaxInt} {
		list, ok := b.e.Tail(from)
		want, is := b.k.Tail(from)
		if b.closed {
			want, is = nil, false
		}
		b.is("17.8", fmt.Sprintf("%s: Tail(%d)", what, from), fmt.Sprintf("%+v %v", list, ok), fmt.Sprintf("%+v %v", want, is))
	}
}

// gone: every call answers this, whatever it is given, with nothing beside it, and does nothing. (Close is not asked: it would close.)
func (b *both) gone(what string, want api.Errno) {
	b.t.Helper()
	calls := allCalls(b.e, b.e.Opts().Width)
	if b.closed {
		calls["Close"] = func() (string, api.Errno) { return "", b.e.Close() }
	}
	was := seenOf(b.d)
	for name, call := range calls {
		if beside, got := call(); got != want || beside != "" {
			b.t.Fatalf("17.2: %s: behind %s: %s: %d and %q, want %d", b.where, what, name, got, beside, want)
		}
	}
	if seenOf(b.d) != was {
		b.t.Fatalf("17.2: %s: behind %s: a call that answered %d has written", b.where, what, want)
	}
}

// allCalls are the calls that answer an Errno, with right and with wrong arguments; each tells what it answers beside it, if that is not zero.
func allCalls(e *engine.Engine, width int) map[string]func() (string, api.Errno) {
	q := strings.Repeat("a", width/8)
	hits := func(list []api.Hit, s api.Stats, e api.Errno) (string, api.Errno) {
		if len(list) == 0 && s == (api.Stats{}) {
			return "", e
		}
		return fmt.Sprint(list, s), e
	}
	calls := map[string]func() (string, api.Errno){
		"Sync": func() (string, api.Errno) { return "", e.Sync() },
		"CompactStep": func() (string, api.Errno) {
			done, e := e.CompactStep()
			if done {
				return "true", e
			}
			return "", e
		},
	}
	for _, n := range []int{math.MinInt, -1, 0, 1, 5, 1 << 48, 1<<48 + 1, math.MaxInt} {
		for _, code := range []string{"", "x", q} {
			calls[fmt.Sprintf("Insert(%d, %q)", n, code)] = func() (string, api.Errno) { return "", e.Insert(n, code) }
			calls[fmt.Sprintf("TopK(%q, %d)", code, n)] = func() (string, api.Errno) { return hits(e.TopK(code, n)) }
			calls[fmt.Sprintf("Radius(%q, %d)", code, n)] = func() (string, api.Errno) { return hits(e.Radius(code, n)) }
			calls[fmt.Sprintf("Few(%q, %d, 9)", code, n)] = func() (string, api.Errno) { return hits(e.Few(code, n, 9)) }
			calls[fmt.Sprintf("Few(%q, 9, %d)", code, n)] = func() (string, api.Errno) { return hits(e.Few(code, 9, n)) }
		}
		calls[fmt.Sprintf("Delete(%d)", n)] = func() (string, api.Errno) { return "", e.Delete(n) }
		calls[fmt.Sprintf("Get(%d)", n)] = func() (string, api.Errno) { return e.Get(n) }
		calls[fmt.Sprintf("Pairs(%d, 9)", n)] = func() (string, api.Errno) {
			list, e := e.Pairs(n, 9)
			if len(list) == 0 {
				return "", e
			}
			return fmt.Sprint(list), e
		}
		calls[fmt.Sprintf("Pairs(0, %d)", n)] = func() (string, api.Errno) {
			list, e := e.Pairs(0, n)
			if len(list) == 0 {
				return "", e
			}
			return fmt.Sprint(list), e
		}
	}
	return calls
}

// list are the pairs, ids rising.
func (b *both) list() []api.Pair {
	var list []api.Pair
	for id, code := range b.pairs {
		list = append(list, api.Pair{ID: id, Code: code})
	}
	slices.SortFunc(list, func(x, y api.Pair) int { return cmp.Compare(x.ID, y.ID) })
	return list
}

// questions: an engine at work answers what the pairs say.
func (b *both) questions(what string) {
	b.t.Helper()
	list := b.list()
	b.askForPairs(what, list)
	width := b.k.Seen().Width
	queries := []string{strings.Repeat("\x00", width/8), strings.Repeat("\xff", width/8), strings.Repeat("\x01", width/8)}
	if len(list) > 0 {
		queries = append(queries, list[len(list)/2].Code)
	}
	b.asked++
	b.askFor(what, list, queries[b.asked%len(queries)])
	if b.asked%4 == 0 {
		b.askWrong(what)
	}
}

func (b *both) askForPairs(what string, list []api.Pair) {
	b.t.Helper()
	for _, from := range []int{math.MinInt, -1, 0, 3, 7, math.MaxInt} {
		for _, most := range []int{math.MinInt, -1, 0, 1, 3, math.MaxInt} {
			var want []api.Pair
			for _, p := range list {
				if p.ID >= from && len(want) < most {
					want = append(want, p)
				}
			}
			got, e := b.e.Pairs(from, most)
			b.is("17.5", fmt.Sprintf("%s: Pairs(%d, %d)", what, from, most), fmt.Sprint(got, int(e)), fmt.Sprint(want, 0))
		}
	}
	for id := range 13 {
		want := fmt.Sprintf("%q 131", "")
		if code, lives := b.pairs[id]; lives {
			want = fmt.Sprintf("%q 0", code)
		}
		code, e := b.e.Get(id)
		b.is("17.5", fmt.Sprintf("%s: Get(%d)", what, id), fmt.Sprintf("%q %d", code, e), want)
	}
	for _, id := range []int{math.MinInt, -1, 1<<48 + 1, math.MaxInt} {
		code, e := b.e.Get(id)
		b.is("17.5", fmt.Sprintf("%s: Get(%d)", what, id), fmt.Sprintf("%q %d", code, e), `"" 60`)
	}
}

// askFor: the searches for a query are those of a plain look, and tell what chapter 11 does.
func (b *both) askFor(what string, list []api.Pair, q string) {
	b.t.Helper()
	o := b.k.Seen().Opts
	all := looked(list, q)
	s, tells := probe.Source{}, o.Mode == api.Chunked
	if tells {
		var e api.Errno
		if s, e = probe.Of(o.Width, o.Chunks, list); e != api.OK {
			b.t.Fatalf("11.1: %s: %d", b.where, e)
		}
	}
	for _, k := range []int{0, 1, 2, 3, len(list) - 1, len(list), len(list) + 1, 4096} {
		if k < 0 || k > 4096 {
			continue
		}
		var want api.Stats
		if tells {
			_, want, _ = probe.TopK(s, q, k)
		}
		hits, stats, e := b.e.TopK(q, k)
		b.is("17.6", fmt.Sprintf("%s: TopK(%q, %d)", what, q, k), fmt.Sprint(hits, stats, int(e)), fmt.Sprint(all[:min(k, len(all))], want, 0))
	}
	for _, r := range []int{0, 1, 2, o.Width / 8, o.Width / 2, o.Width - 1, o.Width} {
		near := slices.DeleteFunc(slices.Clone(all), func(h api.Hit) bool { return h.Dist > r })
		var want api.Stats
		if tells {
			_, want, _ = probe.Radius(s, q, r)
		}
		hits, stats, e := b.e.Radius(q, r)
		b.is("17.6", fmt.Sprintf("%s: Radius(%q, %d)", what, q, r), fmt.Sprint(hits, stats, int(e)), fmt.Sprint(near, want, 0))
	}
	for _, k := range []int{0, 1, 3, 4096} {
		for _, shells := range []int{0, 1, 2, 9, math.MaxInt} {
			hits, stats, e := b.e.Few(q, k, shells)
			var found []api.Hit
			want, refusal := api.Stats{}, api.ErrMode
			if tells {
				found, want, refusal = probe.Few(s, q, k, shells)
			}
			b.is("17.7", fmt.Sprintf("%s: Few(%q, %d, %d)", what, q, k, shells), fmt.Sprint(hits, stats, int(e)), fmt.Sprint(found, want, int(refusal)))
		}
	}
}

// askWrong: what a search refuses, in its order.
func (b *both) askWrong(what string) {
	b.t.Helper()
	o := b.k.Seen().Opts
	q := strings.Repeat("a", o.Width/8)
	refused := func(promise, call string, hits []api.Hit, s api.Stats, got, want api.Errno) {
		b.t.Helper()
		if len(hits) != 0 || s != (api.Stats{}) || got != want {
			b.t.Fatalf("%s: %s: behind %s: %s: %v, %v, %d, want %d", promise, b.where, what, call, hits, s, got, want)
		}
	}
	few := func(want api.Errno) api.Errno {
		if o.Mode == api.Treed {
			return api.ErrMode
		}
		return want
	}
	for _, n := range []int{math.MinInt, -1, 4097, math.MaxInt} {
		hits, s, e := b.e.TopK(q, n)
		refused("17.6", fmt.Sprintf("TopK(q, %d)", n), hits, s, e, api.ErrK)
		hits, s, e = b.e.Few(q, n, -1)
		refused("17.7", fmt.Sprintf("Few(q, %d, -1)", n), hits, s, e, few(api.ErrK))
	}
	for _, r := range []int{math.MinInt, -1, o.Width + 1, math.MaxInt} {
		hits, s, e := b.e.Radius(q, r)
		refused("17.6", fmt.Sprintf("Radius(q, %d)", r), hits, s, e, api.ErrRadius)
	}
	for _, shells := range []int{math.MinInt, -1} {
		hits, s, e := b.e.Few(q, 0, shells)
		refused("17.7", fmt.Sprintf("Few(q, 0, %d)", shells), hits, s, e, few(api.ErrRange))
	}
	for _, code := range []string{"", "x", q[1:], q + "a", q + q} {
		for _, n := range []int{-1, 0, 5000} {
			hits, s, e := b.e.TopK(code, n)
			refused("17.6", fmt.Sprintf("TopK(%q, %d)", code, n), hits, s, e, api.ErrCode)
			hits, s, e = b.e.Radius(code, n)
			refused("17.6", fmt.Sprintf("Radius(%q, %d)", code, n), hits, s, e, api.ErrCode)
			hits, s, e = b.e.Few(code, n, n)
			refused("17.7", fmt.Sprintf("Few(%q, %d, %d)", code, n, n), hits, s, e, few(api.ErrCode))
		}
	}
}
