package keep_test

import (
	"fmt"
	"maps"
	"slices"
	"testing"

	"kindred/api"
	"kindred/disk"
	"kindred/keep"
)

// past is what updates have made, up to one of them.
type past struct {
	seq   int
	pairs map[int]string
}

// history are the pasts of a store whose updates answered OK, oldest first; the one of the number sure cannot be taken back any more.
type history struct {
	all  []past
	sure int
}

func (h *history) add(seq int, pairs map[int]string) {
	h.all = append(h.all, past{seq: seq, pairs: maps.Clone(pairs)})
}

// settle: nothing that is there now can be taken back.
func (h *history) settle() { h.sure = len(h.all) - 1 }

// survives: behind a power cut the store is one of the pasts that could be, or what the call under way would have made (nil: none was). It goes on from there.
func (h *history) survives(b *both, under *past) {
	b.t.Helper()
	pairs := map[int]string{}
	for _, p := range b.k.Pairs(0, 1<<30) {
		pairs[p.ID] = p.Code
	}
	if under != nil {
		h.all = append(h.all, *under)
	}
	for i := len(h.all) - 1; i >= h.sure; i-- {
		if h.all[i].seq == b.k.Seq() && maps.Equal(h.all[i].pairs, pairs) {
			h.all = h.all[:i+1]
			h.settle()
			return
		}
	}
	b.t.Fatalf("15.16: %s: behind a power cut Seq is %d, with %s; it was %s, and the first %d were durable", b.where, b.k.Seq(), told(pairs), told(h.all), h.sure+1)
}

// twice: a second Open tells the same and writes nothing.
func (b *both) twice() {
	b.t.Helper()
	image, writes, was := b.d.Image(), b.d.Writes(), b.k
	if e := b.open(); e != api.OK || b.d.Writes() != writes || b.d.Image() != image {
		b.t.Fatalf("15.5: %s: a second Open: %d, and it has written", b.where, e)
	}
	if b.k.Seq() != was.Seq() || fmt.Sprint(b.k.Pairs(0, 99)) != fmt.Sprint(was.Pairs(0, 99)) {
		b.t.Fatalf("15.15: %s: a second Open tells something else", b.where)
	}
}

// back opens a store behind a power cut; the power goes at the n-th write of the Open, too, if it has so many.
func (b *both) back(n int, done bool, cuts []api.Cut) {
	b.t.Helper()
	b.arm(n, done)
	e := b.open()
	b.arm(0, false)
	if e == api.ErrDown {
		b.crash(cuts)
		e = b.open()
	}
	if e != api.OK {
		b.t.Fatalf("15.16: %s: Open behind a power cut: %d", b.where, e)
	}
}

// stores are how a store is made up to the call that is tried; some updates are unsynced.
func stores(b *both, o api.Opts, h *history) {
	b.quiet = true
	defer func() { b.quiet = false }()
	code := func(c byte) string { return string(slices.Repeat([]byte{c}, o.Width/8)) }
	if e := b.create(o); e != api.OK {
		b.t.Fatal("15.4:", e)
	}
	h.add(0, nil)
	h.settle()
	did := func(e api.Errno) {
		if e != api.OK {
			b.t.Fatalf("%s: %d", b.where, e)
		}
		h.add(b.m.seq(), b.m.pairs)
	}
	for id := range 3 {
		did(b.insert(id, code(byte(id/2))))
	}
	b.flush()
	did(b.delete(1))
	did(b.insert(1, code(9)))
	did(b.delete(2))
	b.flush()
	did(b.insert(7, code(0)))
	b.sync()
	h.settle()
	did(b.insert(8, code(3)))
	did(b.delete(0))
}

// tries are the calls in which the power is cut, each with what it would make of the pairs.
func tries(o api.Opts) map[string]func(b *both) *past {
	code := func(c byte) string { return string(slices.Repeat([]byte{c}, o.Width/8)) }
	return map[string]func(b *both) *past{
		"Insert": func(b *both) *past {
			to := past{seq: b.m.seq() + 1, pairs: maps.Clone(b.m.pairs)}
			to.pairs[5] = code(7)
			b.insert(5, code(7))
			return &to
		},
		"Delete": func(b *both) *past {
			to := past{seq: b.m.seq() + 1, pairs: maps.Clone(b.m.pairs)}
			delete(to.pairs, 1)
			b.delete(1)
			return &to
		},
		"Sync":  func(b *both) *past { b.sync(); return nil },
		"Flush": func(b *both) *past { b.flush(); return nil },
		"Swap": func(b *both) *past {
			b.merge(2)
			return nil
		},
		"Swap of one": func(b *both) *past { b.merge(1); return nil },
		"Reset": func(b *both) *past {
			to := past{seq: 20, pairs: map[int]string{2: code(4), 6: code(0), 9: code(4)}}
			b.reset(20, []api.Pair{{ID: 2, Code: code(4)}, {ID: 6, Code: code(0)}, {ID: 9, Code: code(4)}})
			return &to
		},
		"Reset to none": func(b *both) *past {
			b.reset(20, nil)
			return &past{seq: 20, pairs: map[int]string{}}
		},
		"Open": func(b *both) *past {
			b.disks(func(d *disk.Disk) {
				put(d, "j99", "left over")
				put(d, "r77.0", "")
				put(d, "manifest.new", "half a manifest")
				put(d, "notes", "nobody's")
			})
			b.open()
			return nil
		},
	}
}

// kept are what is left of the files' unsynced bytes.
func kept() [][]api.Cut {
	var list [][]api.Cut
	for _, keep := range []int{0, 1, 20, 33, 9999} {
		for _, spoil := range []byte{0, 1} {
			var cuts []api.Cut
			for _, name := range []string{"manifest.new", "j5", "j7", "j8", "r6.0", "r6.1", "r6.2"} {
				cuts = append(cuts, api.Cut{Name: name, Keep: keep, Spoil: spoil})
			}
			list = append(list, cuts)
			if keep == 0 {
				break
			}
		}
	}
	return list
}

// TestPowerCuts: the power goes at every write of every call, with a step of names done or not, and whatever is left; then at a write of the Open behind it.
func TestPowerCuts(t *testing.T) {
	for _, o := range []api.Opts{{Width: 64, Chunks: 2, Mode: 1}, {Width: 64, Mode: 2}} {
		for name, try := range tries(o) {
			cut := true
			for n := 1; cut; n++ {
				for _, done := range []bool{false, true} {
					for i, cuts := range kept() {
						b := bothOn(t, fmt.Sprintf("%s of mode %d, cut at write %d, done %v, left %d", name, o.Mode, n, done, i), 1<<20)
						h := &history{}
						stores(b, o, h)
						b.arm(n, done)
						under := try(b)
						if cut = b.d.Down(); cut {
							b.gone()
						} else if under != nil {
							h.all = append(h.all, *under)
							under = nil
						}
						if !cut && slices.Contains([]string{"Sync", "Flush", "Reset", "Reset to none"}, name) {
							h.settle()
						}
						b.crash(cuts)
						b.gone()
						b.back((n+i)%7, done, cuts)
						h.survives(b, under)
						b.twice()
						if got := len(b.d.Names()); name != "Open" && got != 2+len(b.m.m.Runs)*b.m.tables() {
							t.Fatalf("15.5: %s: files are left: %q", b.where, b.d.Names())
						}
						goOn(b, h)
					}
				}
			}
		}
	}
}

// goOn: numbers go on behind a power cut, and what is synced then stays.
func goOn(b *both, h *history) {
	b.t.Helper()
	seq := b.k.Seq()
	code := string(slices.Repeat([]byte{5}, b.m.m.Width/8))
	if e := b.insert(1000, code); e != api.OK || b.k.Seq() != seq+1 {
		b.t.Fatalf("15.16: %s: an update behind the power cut: %d", b.where, e)
	}
	h.add(b.m.seq(), b.m.pairs)
	if e := b.flush(); e != api.OK {
		b.t.Fatalf("15.16: %s: a Flush behind the power cut: %d", b.where, e)
	}
	h.settle()
	b.crash(nil)
	b.back(0, false, nil)
	h.survives(b, nil)
}

// TestCreateCut: where Create was cut there is no store, or an empty one.
func TestCreateCut(t *testing.T) {
	for n := 1; n < 12; n++ {
		for _, done := range []bool{false, true} {
			for i, cuts := range kept() {
				b := bothOn(t, fmt.Sprintf("Create cut at %d, %v, left %d", n, done, i), 9999)
				b.disks(func(d *disk.Disk) {
					put(d, "j1", "left over")
					put(d, "r77.0", "")
					put(d, "manifest.new", "half a manifest")
					put(d, "notes", "nobody's")
				})
				b.arm(n, done)
				e := b.create(api.Opts{Width: 64, Chunks: 8, Mode: 1})
				if (e == api.ErrDown) != (n <= 8) {
					t.Fatalf("15.4: %s: %d", b.where, e)
				}
				b.crash(cuts)
				e = b.open()
				if e == api.ErrNone {
					e = b.create(api.Opts{Width: 64, Chunks: 8, Mode: 1})
				}
				if e != api.OK || b.k.Count() != 0 || b.k.Seq() != 0 || fmt.Sprint(b.d.Names()) != "[j1 manifest notes]" {
					t.Fatalf("15.16: %s: %d, %q", b.where, e, b.d.Names())
				}
				b.twice()
			}
		}
	}
}

// TestWalks: made-up calls on made-up stores, with power cuts, full disks, and openings between.
func TestWalks(t *testing.T) {
	for seed := range 400 {
		walk(t, seed)
	}
}

func walk(t *testing.T, seed int) {
	g := from(seed)
	o := g.opts()
	b := bothOn(t, fmt.Sprint("walk ", seed), []int{1 << 20, 1 << 20, 200 + g.Below(2000)}[g.Below(3)])
	b.disks(func(d *disk.Disk) { put(d, "notes", "nobody's") })
	h := &history{}
	if e := b.create(o); e != api.OK {
		return
	}
	h.add(0, nil)
	h.settle()
	for range 40 {
		if g.Below(9) == 0 {
			b.arm(1+g.Below(12), g.Below(2) == 0)
		}
		under := step(b, g, h)
		if !b.d.Down() && g.Below(20) > 0 {
			continue
		}
		if b.d.Down() {
			b.gone()
		} else {
			under = nil
		}
		cuts := g.cuts(b.m.next)
		b.crash(cuts)
		b.gone()
		b.back(g.Below(4), g.Below(2) == 0, g.cuts(b.m.next))
		h.survives(b, under)
		b.twice()
	}
}

// step makes one call; what it would have made is told, if the power went in it.
func step(b *both, g maker, h *history) *past {
	b.t.Helper()
	m, was := b.m, b.m.seq()
	to := past{seq: was + 1, pairs: maps.Clone(m.pairs)}
	var e api.Errno
	switch g.Below(14) {
	case 0, 1, 2, 3, 4:
		id, code := g.id(), g.code(m.m.Width)
		to.pairs[id] = code
		e = b.insert(id, code)
	case 5, 6, 7:
		id := g.id()
		if list := m.list(); len(list) > 0 && g.Below(4) > 0 {
			id = list[g.Below(len(list))].ID
		}
		delete(to.pairs, id)
		e = b.delete(id)
	case 8:
		to = past{}
		if e = b.sync(); e == api.OK {
			h.settle()
		}
	case 9, 10:
		to = past{}
		if e = b.flush(); e == api.OK && b.k.Synced() == b.k.Seq() {
			h.settle()
		}
	case 11:
		to = past{}
		if n := g.Below(len(m.m.Runs) + 1); n > 0 {
			e = b.merge(n)
		}
	case 12:
		to.seq += g.Below(9)
		pairs := g.list(m.m.Width, g.Below(9))
		clear(to.pairs)
		for _, p := range pairs {
			to.pairs[p.ID] = p.Code
		}
		e = b.reset(to.seq, pairs)
	case 13:
		to = past{}
		switch g.Below(3) {
		case 0:
			b.number()
		case 1:
			b.disks(func(d *disk.Disk) { d.Create(jname(m.next + 40)) })
			e = b.open()
		case 2:
			e = b.open()
		}
	}
	switch {
	case e == api.OK && to.pairs != nil:
		h.all = append(h.all, to)
		if b.k.Synced() == b.k.Seq() { // a Reset
			h.settle()
		}
	case e == api.ErrDown && to.pairs != nil:
		return &to
	case e != api.OK && b.k.Seq() != was:
		b.t.Fatalf("15.7: %s: a refusal changed Seq", b.where)
	}
	return nil
}

// TestGivenUp: a keep tells what was so ahead of the call that gave it up, whether it was asked before or not.
func TestGivenUp(t *testing.T) {
	for _, o := range []api.Opts{{Width: 64, Chunks: 8, Mode: 1}, {Width: 64, Mode: 2}} {
		d := disk.New(1 << 20)
		k, _ := keep.Create(d, o)
		for id := range 9 {
			k.Insert(id, z(byte(id/2)))
		}
		k.Flush()
		k.Insert(20, z(7))
		k.Delete(0)
		k.Number()
		told := func() string {
			tail, ok := k.Tail(9)
			n, some := k.Waits()
			return fmt.Sprint(k.Count(), k.Codes(), k.Pairs(0, 99), k.Values(0), k.Values(7), k.Seq(), k.Synced(), tail, ok, n, some, k.Seen(), len(k.Runs()))
		}
		twin, _ := keep.Open(d)
		twin.Number()
		d.Arm(1, true)
		if e := k.Insert(21, z(7)); e != api.ErrDown {
			t.Fatal("15.7:", e)
		}
		was := told()
		d.Crash([]api.Cut{{Name: "j3", Keep: 9999}})
		if told() != was {
			t.Errorf("15.3: behind the power cut a keep tells %s, want %s", told(), was)
		}
		next, e := keep.Open(d)
		if e != api.OK || next.Seq() != 12 || next.Insert(30, z(30)) != api.OK || next.Reset(99, nil) != api.OK {
			t.Fatal("15.5:", e)
		}
		k = twin // never asked before
		if e := k.Sync(); e != api.ErrDown || told() != was {
			t.Errorf("15.3: a keep that was not asked before: %d, %s, want %s", e, told(), was)
		}
	}
}
