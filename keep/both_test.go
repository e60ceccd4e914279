package keep_test

import (
	"fmt"
	"math"
	"slices"
	"strings"
	"testing"

	"kindred/api"
	"kindred/disk"
	"kindred/keep"
	"kindred/run"
)

// both is a keep and the second writing of it, each over a disk of its own; every call is made on both, and answers and disks are held against each other.
type both struct {
	t     *testing.T
	where string
	quiet bool // nothing else is looked at: calls up to those that are tried, which were looked at elsewhere
	d     *disk.Disk
	other *disk.Disk
	k     *keep.Keep
	m     *model
}

func bothOn(t *testing.T, where string, capacity int) *both {
	return &both{t: t, where: where, d: disk.New(capacity), other: disk.New(capacity)}
}

// disks does something to both.
func (b *both) disks(do func(d *disk.Disk)) {
	do(b.d)
	do(b.other)
}

func (b *both) arm(n int, done bool) { b.disks(func(d *disk.Disk) { d.Arm(n, done) }) }

func (b *both) crash(cuts []api.Cut) { b.disks(func(d *disk.Disk) { d.Crash(cuts) }) }

// held: a call answered as it should, and the disks are alike.
func (b *both) held(promise, what string, got, want api.Errno) api.Errno {
	b.t.Helper()
	if got != want {
		b.t.Fatalf("%s: %s: %s: %d, want %d", promise, b.where, what, got, want)
	}
	if b.quiet {
		return got
	}
	if x, y := seenOf(b.d), seenOf(b.other); x != y {
		b.t.Fatalf("%s: %s: %s: the disk is\n%s\nwant\n%s", promise, b.where, what, told(x), told(y))
	}
	b.agree(what)
	return got
}

func (b *both) create(o api.Opts) api.Errno {
	b.t.Helper()
	k, e := keep.Create(b.d, o)
	m, want := modelCreate(b.other, o)
	return b.made("15.4", "Create", k, m, e, want)
}

func (b *both) open() api.Errno {
	b.t.Helper()
	k, e := keep.Open(b.d)
	m, want := modelOpen(b.other)
	return b.made("15.5", "Open", k, m, e, want)
}

// made takes a keep up, if there is one.
func (b *both) made(promise, what string, k *keep.Keep, m *model, e, want api.Errno) api.Errno {
	b.t.Helper()
	if (k != nil) != (e == api.OK) {
		b.t.Fatalf("%s: %s: %s: %d, and a keep: %v", promise, b.where, what, e, k != nil)
	}
	if e == api.OK && want == api.OK {
		b.k, b.m = k, m
	}
	return b.held(promise, what, e, want)
}

func (b *both) insert(id int, code string) api.Errno {
	b.t.Helper()
	return b.held("15.7", fmt.Sprintf("Insert(%d, %q)", id, code), b.k.Insert(id, code), b.m.update(1, id, code))
}

func (b *both) delete(id int) api.Errno {
	b.t.Helper()
	return b.held("15.8", fmt.Sprintf("Delete(%d)", id), b.k.Delete(id), b.m.update(2, id, ""))
}

func (b *both) sync() api.Errno {
	b.t.Helper()
	return b.held("15.9", "Sync", b.k.Sync(), b.m.sync())
}

func (b *both) flush() api.Errno {
	b.t.Helper()
	some, e := b.k.Flush()
	was, want := b.m.flush()
	if some != was {
		b.t.Fatalf("15.10: %s: Flush: %v, want %v", b.where, some, was)
	}
	return b.held("15.10", "Flush", e, want)
}

func (b *both) number() int {
	b.t.Helper()
	n, e := b.k.Number()
	m, want := b.m.number()
	if n != m {
		b.t.Fatalf("15.12: %s: Number: %d, want %d", b.where, n, m)
	}
	b.held("15.12", "Number", e, want)
	return n
}

func (b *both) reset(seq int, pairs []api.Pair) api.Errno {
	b.t.Helper()
	return b.held("15.14", fmt.Sprintf("Reset(%d, %s)", seq, told(pairs)), b.k.Reset(seq, pairs), b.m.reset(seq, pairs))
}

func (b *both) swap(n int, r *run.Run) api.Errno {
	b.t.Helper()
	var info *api.RunInfo
	if r != nil {
		said := r.Info()
		info = &said
	}
	return b.held("15.13", fmt.Sprintf("Swap(%d, %v)", n, info), b.k.Swap(n, r), b.m.swap(n, info))
}

// merge writes the last words of the first n runs, but for the dead, as a run of its own, and swaps it for them.
func (b *both) merge(n int) api.Errno {
	b.t.Helper()
	last := map[api.Pair]api.Entry{}
	for _, list := range b.m.runs[:n] {
		for _, e := range list {
			if p := (api.Pair{ID: e.ID, Code: e.Code}); last[p].Seq < e.Seq {
				last[p] = e
			}
		}
	}
	var list []api.Entry
	for _, e := range last {
		if !e.Dead {
			list = append(list, e)
		}
	}
	if len(list) == 0 {
		return b.swap(n, nil)
	}
	m := b.m.m
	info := api.RunInfo{Number: b.number(), Lo: m.Runs[0].Lo, Hi: m.Runs[n-1].Hi, Count: len(list)}
	e := run.Write(b.d, info.Number, m.Opts, info, byCode(list))
	b.held("14.2", "run.Write", e, run.Write(b.other, info.Number, m.Opts, info, list))
	if e != api.OK {
		return e
	}
	r, e := run.Open(b.d, m.Opts, info)
	if e != api.OK {
		b.t.Fatalf("14.4: %s: %d", b.where, e)
	}
	e = b.swap(n, r)
	if e != api.OK && e != api.ErrDown { // whoever has written the files takes them away
		run.Delete(b.d, info.Number, m.Opts)
		run.Delete(b.other, info.Number, m.Opts)
	}
	return e
}

// agree: the keep tells what the second writing's files say; without power, what they said last.
func (b *both) agree(what string) {
	b.t.Helper()
	if b.k == nil {
		return
	}
	k, m := b.k, b.m
	is := func(promise, call string, got, want any) {
		b.t.Helper()
		if x, y := fmt.Sprintf("%+v", got), fmt.Sprintf("%+v", want); x != y {
			b.t.Fatalf("%s: %s: behind %s: %s: %s, want %s", promise, b.where, what, call, told(x), told(y))
		}
	}
	list := m.list()
	is("15.6", "Count", k.Count(), len(list))
	codes := map[string]int{}
	for _, p := range list {
		codes[p.Code]++
	}
	is("15.6", "Codes", k.Codes(), len(codes))
	for _, most := range []int{math.MinInt, -1, 0, 1, 3, math.MaxInt} {
		is("15.6", "Pairs(0, ..)", k.Pairs(0, most), list[:min(len(list), max(0, most))])
		for i, p := range list {
			for by, from := range map[int]int{-1: i, 0: i, 1: i + 1} {
				if by < 0 && i > 0 && list[i-1].ID == p.ID-1 {
					continue // that one lives too
				}
				want := list[from:]
				is("15.6", fmt.Sprintf("Pairs(%d, %d)", p.ID+by, most), k.Pairs(p.ID+by, most), want[:min(len(want), max(0, most))])
			}
		}
	}
	is("15.6", "Pairs from the least", k.Pairs(math.MinInt, math.MaxInt), list)
	is("15.6", "Pairs from the greatest", len(k.Pairs(math.MaxInt, math.MaxInt)), 0)
	is("15.9", "Seq", k.Seq(), m.seq())
	is("15.9", "Synced", k.Synced(), m.synced)
	n, some := k.Waits()
	is("15.10", "Waits", fmt.Sprint(n, some), fmt.Sprint(len(m.words), len(m.updates) > 0))
	seen := m.m
	seen.Next = m.next
	is("15.12", "Seen", k.Seen(), seen)
	if k.Disk() != b.d {
		b.t.Fatalf("15.12: %s: another disk", b.where)
	}
	is("15.12", "Runs", len(k.Runs()), len(m.runs))
	for i, r := range k.Runs() {
		is("15.12", "a run's Info", r.Info(), m.m.Runs[i])
		is("15.12", "a run's words", r.All(0), m.runs[i])
	}
	for _, from := range []int{math.MinInt, -1, 0, m.m.Seq - 1, m.m.Seq, m.m.Seq + 1, m.seq() - 1, m.seq(), m.seq() + 1, math.MaxInt} {
		tail, ok := k.Tail(from)
		want := from >= m.m.Seq && from <= m.seq()
		is("15.11", fmt.Sprintf("Tail(%d)", from), ok, want)
		if want {
			is("15.11", fmt.Sprintf("Tail(%d)", from), tail, m.updates[from-m.m.Seq:])
		} else {
			is("15.11", fmt.Sprintf("Tail(%d)", from), len(tail), 0)
		}
	}
	b.agreeOnPairs(is, list)
	b.agreeOnTables(is, list)
}

type holds = func(promise, call string, got, want any)

func (b *both) agreeOnPairs(is holds, list []api.Pair) {
	b.t.Helper()
	ids := []int{math.MinInt, -1, 0, 1, 5, 1 << 48, 1<<48 + 1, math.MaxInt}
	for _, p := range list {
		ids = append(ids, p.ID)
	}
	for _, id := range ids {
		code, lives := b.m.pairs[id]
		want := api.OK
		switch {
		case b.m.down():
			want, code = api.ErrDown, ""
		case id < 0 || id > 1<<48:
			want = api.ErrID
		case !lives:
			want = api.ErrGone
		}
		got, e := b.k.Get(id)
		is("15.6", fmt.Sprintf("Get(%d)", id), fmt.Sprintf("%q %d", got, e), fmt.Sprintf("%q %d", code, want))
	}
}

func (b *both) agreeOnTables(is holds, list []api.Pair) {
	b.t.Helper()
	sorted := slices.Clone(list)
	slices.SortFunc(sorted, func(x, y api.Pair) int {
		if x.Code != y.Code {
			return strings.Compare(x.Code, y.Code)
		}
		return x.ID - y.ID
	})
	for j := range b.m.tables() {
		have := map[int][]api.Pair{}
		var values []int
		for _, p := range sorted {
			v := b.m.value(j, p.Code)
			if len(have[v]) == 0 {
				values = append(values, v)
			}
			have[v] = append(have[v], p)
		}
		slices.Sort(values)
		is("15.6", fmt.Sprintf("Values(%d)", j), b.k.Values(j), values)
		for _, v := range append([]int{math.MinInt, -1, 0, 7, math.MaxInt}, values...) {
			got, e := b.k.At(j, v)
			if b.m.down() {
				is("15.3", fmt.Sprintf("At(%d, %d)", j, v), fmt.Sprint(len(got), int(e)), "0 45")
				continue
			}
			is("15.6", fmt.Sprintf("At(%d, %d)", j, v), fmt.Sprintf("%+v %d", got, e), fmt.Sprintf("%+v %d", have[v], 0))
		}
	}
	for _, j := range []int{math.MinInt, -1, b.m.tables(), b.m.tables() + 1, 128, math.MaxInt} {
		got, e := b.k.At(j, 0)
		if len(b.k.Values(j)) != 0 || len(got) != 0 || (e == api.ErrDown) != b.m.down() || e != api.OK && e != api.ErrDown {
			b.t.Fatalf("15.6: %s: there is a table %d", b.where, j)
		}
	}
}

// gone: every call answers ErrDown, whatever it is given, and does nothing.
func (b *both) gone() {
	b.t.Helper()
	was := seenOf(b.d)
	k := b.k
	_, f := k.Flush()
	_, n := k.Number()
	_, g := k.Get(-1)
	_, a := k.At(-1, 0)
	for i, e := range []api.Errno{k.Insert(-1, "x"), k.Insert(3, strings.Repeat("a", b.m.m.Width/8)), k.Delete(-1), k.Delete(0), k.Sync(), f, n, k.Swap(-1, nil), k.Swap(0, nil), k.Swap(1, nil), k.Reset(-1, nil), k.Reset(1<<59, nil), k.Reset(1<<59, []api.Pair{{ID: -1}}), g, a} {
		if e != api.ErrDown {
			b.t.Fatalf("15.3: %s: given up: call %d answers %d", b.where, i, e)
		}
	}
	if seenOf(b.d) != was {
		b.t.Fatalf("15.3: %s: a keep that is given up has written", b.where)
	}
	b.agree("calls that answered ErrDown")
}
