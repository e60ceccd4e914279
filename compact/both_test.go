package compact_test

import (
	"fmt"
	"strings"
	"testing"

	"kindred/api"
	"kindred/compact"
	"kindred/disk"
	"kindred/keep"
)

// both is a compactor and the second writing of it, each over a keep on a disk of its own; every call is made on both, and answers, disks and keeps are held against each other.
type both struct {
	t     *testing.T
	where string
	quiet bool // of disks and keeps nothing is looked at
	k     *keep.Keep
	c     *compact.Compactor
	m     *model
}

// bothOn are over a new store.
func bothOn(t *testing.T, where string, o api.Opts, capacity int) *both {
	t.Helper()
	b := &both{t: t, where: where}
	b.over(func() (*keep.Keep, api.Errno) { return keep.Create(disk.New(capacity), o) })
	return b
}

// bothOf are over a store of which this is the image, with so much room.
func bothOf(t *testing.T, where, image string, capacity int) *both {
	t.Helper()
	b := &both{t: t, where: where}
	b.over(func() (*keep.Keep, api.Errno) {
		d, e := disk.Open(image, capacity)
		if e != api.OK {
			t.Fatalf("4.3: %s: %d", where, e)
		}
		return keep.Open(d)
	})
	return b
}

// over takes up two keeps.
func (b *both) over(open func() (*keep.Keep, api.Errno)) {
	b.t.Helper()
	k, e := open()
	other, _ := open()
	if e != api.OK {
		b.t.Fatalf("15.4: %s: %d", b.where, e)
	}
	b.begin(k, other)
}

// begin makes the compactors.
func (b *both) begin(k, other *keep.Keep) {
	b.t.Helper()
	b.k, b.c, b.m = k, compact.New(k), modelOf(other)
	if b.c == nil {
		b.t.Fatalf("16.1: %s: none", b.where)
	}
	b.held("16.1", "New", api.OK, api.OK)
}

// reopen takes the stores up again from their disks.
func (b *both) reopen() api.Errno {
	b.t.Helper()
	k, e := keep.Open(b.k.Disk())
	other, want := keep.Open(b.m.k.Disk())
	if e != want {
		b.t.Fatalf("16.11: %s: Open: %d, want %d", b.where, e, want)
	}
	if e == api.OK {
		b.begin(k, other)
	}
	return e
}

// disks does something to both.
func (b *both) disks(do func(d *disk.Disk)) {
	do(b.k.Disk())
	do(b.m.k.Disk())
}

// keeps does something to both that must be taken.
func (b *both) keeps(what string, do func(k *keep.Keep) api.Errno) {
	b.t.Helper()
	if e := b.tried(what, do); e != api.OK {
		b.t.Fatalf("%s: %s: %d", b.where, what, e)
	}
}

// tried does something to both that may be refused.
func (b *both) tried(what string, do func(k *keep.Keep) api.Errno) api.Errno {
	b.t.Helper()
	return b.held("16.2", what, do(b.k), do(b.m.k))
}

func (b *both) insert(id int, code string) {
	b.t.Helper()
	b.keeps("Insert", func(k *keep.Keep) api.Errno { return k.Insert(id, code) })
}

func (b *both) delete(id int) {
	b.t.Helper()
	b.keeps("Delete", func(k *keep.Keep) api.Errno { return k.Delete(id) })
}

func (b *both) flush() {
	b.t.Helper()
	b.keeps("Flush", func(k *keep.Keep) api.Errno { _, e := k.Flush(); return e })
}

func (b *both) sync() {
	b.t.Helper()
	b.keeps("Sync", func(k *keep.Keep) api.Errno { return k.Sync() })
}

func (b *both) reset(seq int, pairs ...api.Pair) {
	b.t.Helper()
	b.keeps("Reset", func(k *keep.Keep) api.Errno { return k.Reset(seq, pairs) })
}

func (b *both) arm(n int, done bool) { b.disks(func(d *disk.Disk) { d.Arm(n, done) }) }

func (b *both) crash(cuts []api.Cut) { b.disks(func(d *disk.Disk) { d.Crash(cuts) }) }

// step makes a Step: was there nothing to do?
func (b *both) step() (bool, api.Errno) {
	b.t.Helper()
	done, e := b.c.Step()
	wanted, want := b.m.step()
	if done != wanted {
		b.t.Fatalf("16.2: %s: Step: %v, %d, want %v, %d", b.where, done, e, wanted, want)
	}
	return done, b.held("16.2", "Step", e, want)
}

// steps makes so many Steps that do something and are not refused.
func (b *both) steps(n int) {
	b.t.Helper()
	for range n {
		if done, e := b.step(); done || e != api.OK {
			b.t.Fatalf("16.2: %s: Step: %v, %d", b.where, done, e)
		}
	}
}

func (b *both) drop() api.Errno {
	b.t.Helper()
	return b.held("16.6", "Drop", b.c.Drop(), b.m.drop())
}

// held: a call answered as it should, and the disks and keeps are alike.
func (b *both) held(promise, what string, got, want api.Errno) api.Errno {
	b.t.Helper()
	if got != want {
		b.t.Fatalf("%s: %s: %s: %d, want %d", promise, b.where, what, got, want)
	}
	if !b.m.down() {
		if x, y := b.c.Busy(), b.m.under != nil; x != y {
			b.t.Fatalf("16.6: %s: behind %s: Busy %v, want %v", b.where, what, x, y)
		}
		if x, y := b.c.Left(), b.m.left(); x != y {
			b.t.Fatalf("16.7: %s: behind %s: Left %d, want %d", b.where, what, x, y)
		}
	}
	if b.quiet {
		return got
	}
	if x, y := seenOf(b.k.Disk()), seenOf(b.m.k.Disk()); x != y {
		b.t.Fatalf("%s: %s: %s: the disk is\n%s\nwant\n%s", promise, b.where, what, short(x), short(y))
	}
	if x, y := keptOf(b.k), keptOf(b.m.k); x != y {
		b.t.Fatalf("%s: %s: %s: the keep tells\n%s\nwant\n%s", promise, b.where, what, short(x), short(y))
	}
	return got
}

// gone: every call answers ErrDown and does nothing; the others end.
func (b *both) gone() {
	b.t.Helper()
	was, told := seenOf(b.k.Disk()), keptOf(b.k)
	for range 2 {
		if done, e := b.c.Step(); done || e != api.ErrDown {
			b.t.Fatalf("16.2: %s: without power: Step: %v, %d", b.where, done, e)
		}
		if e := b.c.Drop(); e != api.ErrDown {
			b.t.Fatalf("16.6: %s: without power: Drop: %d", b.where, e)
		}
		b.c.Busy()
		b.c.Left()
	}
	if seenOf(b.k.Disk()) != was || keptOf(b.k) != told {
		b.t.Fatalf("16.2: %s: without power something was written", b.where)
	}
}

// toTheEnd makes Steps until there is nothing to do, and holds what stands then against M.
func (b *both) toTheEnd() {
	b.t.Helper()
	pairs, seq := pairsOf(b.k), b.k.Seq()
	for {
		left := b.c.Left()
		done, e := b.step()
		if e != api.OK || done != (left == 0) {
			b.t.Fatalf("16.8: %s: Step: %v, %d, with %d left", b.where, done, e, left)
		}
		if done {
			break
		}
		if now := b.c.Left(); now >= left {
			b.t.Fatalf("16.8: %s: %d are left behind a Step, ahead of it %d", b.where, now, left)
		}
		if pairsOf(b.k) != pairs || b.k.Seq() != seq {
			b.t.Fatalf("16.9: %s: a Step has changed the pairs", b.where)
		}
	}
	b.isClean()
	was, told := seenOf(b.k.Disk()), keptOf(b.k)
	for range 2 {
		if done, e := b.step(); !done || e != api.OK || seenOf(b.k.Disk()) != was || keptOf(b.k) != told {
			b.t.Fatalf("16.8: %s: a Step with nothing to do: %v, %d", b.where, done, e)
		}
	}
}

// isClean: there is one run, with M's pairs alone, or none, and no file beside these.
func (b *both) isClean() {
	b.t.Helper()
	if _, some := b.k.Waits(); some || b.c.Busy() || b.c.Left() != 0 {
		b.t.Fatalf("16.8: %s: something waits in the end", b.where)
	}
	runs, want := b.k.Runs(), b.k.Pairs(0, 1<<30)
	if len(runs) > 1 || (len(runs) == 1) != (len(want) > 0) {
		b.t.Fatalf("16.8: %s: %d runs, %d pairs", b.where, len(runs), len(want))
	}
	have := map[api.Pair]int{}
	for _, r := range runs {
		for _, x := range r.All(0) {
			if x.Dead || x.Seq < 1 || x.Seq > b.k.Seq() {
				b.t.Fatalf("16.9: %s: %+v in the end", b.where, x)
			}
			have[api.Pair{ID: x.ID, Code: x.Code}]++
		}
	}
	for _, p := range want {
		if have[p] != 1 {
			b.t.Fatalf("16.9: %s: the pair %q stands %d times in the end", b.where, fmt.Sprint(p), have[p])
		}
	}
	if len(have) != len(want) || !b.isTidy(len(runs)) {
		b.t.Fatalf("16.9: %s: %d pairs in the run, %d live; %q", b.where, len(have), len(want), b.k.Disk().Names())
	}
}

// isTidy: there are no other files of a store than the manifest, the journal and those of so many runs.
func (b *both) isTidy(runs int) bool {
	n := 0
	for _, name := range b.k.Disk().Names() {
		if name == "manifest" || strings.HasPrefix(name, "j") || strings.HasPrefix(name, "r") {
			n++
		}
	}
	return n == 2+runs*b.m.tables()
}
