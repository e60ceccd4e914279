package compact_test

import (
	"fmt"
	"slices"
	"testing"

	"kindred/api"
	"kindred/disk"
	"kindred/keep"
)

// kept are what is left of the files' unsynced bytes.
func kept() [][]api.Cut {
	var list [][]api.Cut
	for _, keep := range []int{0, 1, 20, 33, 9999} {
		for _, spoil := range []byte{0, 1} {
			var cuts []api.Cut
			for _, name := range []string{"manifest.new", "j5", "j7", "j8", "r6.0", "r6.1", "r6.2", "r8.0", "r8.1"} {
				cuts = append(cuts, api.Cut{Name: name, Keep: keep, Spoil: spoil})
			}
			list = append(list, cuts)
			if keep == 0 {
				break
			}
		}
	}
	return list
}

// stores are what is compacted while the power goes; the last update of each is synced.
func stores() map[string]func(b *both) {
	return map[string]func(b *both){
		"two runs": twoRuns,
		"two runs and updates": func(b *both) {
			twoRuns(b)
			b.insert(9, same(9))
			b.delete(5)
			b.sync()
		},
		"all are dead": func(b *both) {
			twoRuns(b)
			b.delete(5)
			b.delete(7)
			b.sync()
		},
	}
}

// TestPowerCuts: the power goes at every write of every Step up to the end, with a step of names done or not, and whatever is left; then at a write of the Open behind it. The pairs are the same, and there is no trace of the compaction.
func TestPowerCuts(t *testing.T) {
	for _, o := range []api.Opts{two, treed} {
		for name, store := range stores() {
			cut := true
			for n := 1; cut; n++ {
				for _, done := range []bool{false, true} {
					for i, cuts := range kept() {
						b := bothOn(t, fmt.Sprintf("%s of mode %d, cut at write %d, done %v, left %d", name, o.Mode, n, done, i), o, 1<<20)
						b.quiet = true
						store(b)
						b.quiet = false
						cut = cutAt(b, n, done, i, cuts)
					}
				}
			}
		}
	}
}

// cutAt makes Steps until the power goes, and goes on behind that: has it gone?
func cutAt(b *both, n int, done bool, i int, cuts []api.Cut) bool {
	b.t.Helper()
	pairs, seq := pairsOf(b.k), b.k.Seq()
	b.arm(n, done)
	ended, e := false, api.OK
	for !ended && e == api.OK {
		ended, e = b.step()
	}
	if ended != !b.k.Disk().Down() || !ended && e != api.ErrDown {
		b.t.Fatalf("16.2: %s: %v, %d", b.where, ended, e)
	}
	if !ended {
		b.gone()
	}
	b.crash(cuts)
	b.gone()
	back(b, (n+i)%5, done, cuts)
	if pairsOf(b.k) != pairs || b.k.Seq() != seq {
		b.t.Fatalf("16.11: %s: behind the power cut %s, want %s", b.where, pairsOf(b.k), pairs)
	}
	if b.c.Busy() || !b.isTidy(len(b.k.Runs())) {
		b.t.Fatalf("16.10: %s: %q", b.where, b.k.Disk().Names())
	}
	b.toTheEnd()
	return !ended
}

// back opens the stores behind a power cut; the power goes at the n-th write of the Open, too, if it has so many.
func back(b *both, n int, done bool, cuts []api.Cut) {
	b.t.Helper()
	b.arm(n, done)
	e := b.reopen()
	if e == api.ErrDown {
		b.crash(cuts)
		e = b.reopen()
	}
	b.arm(0, false)
	if e != api.OK {
		b.t.Fatalf("16.11: %s: Open behind a power cut: %d", b.where, e)
	}
}

// TestPowerIsOff: somebody else's write has met the power cut; and a crash without one.
func TestPowerIsOff(t *testing.T) {
	for _, o := range []api.Opts{two, treed} {
		for at := range all(o) + 2 {
			for _, off := range []bool{false, true} {
				b := bothOn(t, fmt.Sprintf("%+v, behind %d Steps, off %v", o, at, off), o, 1<<20)
				twoRuns(b)
				for range at {
					b.step()
				}
				pairs := pairsOf(b.k)
				if off {
					b.arm(1, false)
					b.tried("Insert", func(k *keep.Keep) api.Errno { return k.Insert(99, same(9)) })
					b.gone()
				}
				b.crash(nil)
				b.gone()
				if e := b.reopen(); e != api.OK || pairsOf(b.k) != pairs || b.c.Busy() || !b.isTidy(len(b.k.Runs())) {
					t.Fatalf("16.10: %s: Open: %d, %q", b.where, e, b.k.Disk().Names())
				}
				b.toTheEnd()
			}
		}
	}
}

// TestWalks: made-up calls on made-up stores, by the compactor and by others, with power cuts, full disks, and openings between.
func TestWalks(t *testing.T) {
	for seed := range 500 {
		walk(t, seed)
	}
}

func walk(t *testing.T, seed int) {
	g := from(seed)
	o := g.opts()
	b := bothOn(t, fmt.Sprint("walk ", seed), o, []int{1 << 20, 1 << 20, 1000 + g.Below(9000)}[g.Below(3)])
	b.disks(func(d *disk.Disk) { put(d, "notes", "nobody's") })
	for range 80 {
		if g.Below(12) == 0 {
			b.arm(1+g.Below(12), g.Below(2) == 0)
		}
		call(b, g)
		if !b.k.Disk().Down() && g.Below(40) > 0 {
			continue
		}
		if b.k.Disk().Down() {
			b.gone()
		}
		b.crash(g.cuts(b.k.Seen().Next))
		b.gone()
		back(b, g.Below(4), g.Below(2) == 0, g.cuts(b.k.Seen().Next))
		if bytesOf(b.k.Disk(), "notes") != "nobody's" {
			t.Fatalf("16.10: %s: somebody's file was touched", b.where)
		}
	}
	b.disks(func(d *disk.Disk) { d.Arm(0, false) })
	if b.k.Disk().Room() == 1<<20 {
		b.toTheEnd()
	}
}

// call makes one call, of the compactor or of somebody else.
func call(b *both, g maker) {
	b.t.Helper()
	w := b.k.Seen().Width
	switch g.Below(16) {
	case 0, 1, 2:
		id, code := g.Below(12), g.code(w)
		b.tried("Insert", func(k *keep.Keep) api.Errno { return k.Insert(id, code) })
	case 3, 4:
		id := g.Below(12)
		b.tried("Delete", func(k *keep.Keep) api.Errno { return k.Delete(id) })
	case 5:
		b.tried("Sync", func(k *keep.Keep) api.Errno { return k.Sync() })
	case 6, 7:
		b.tried("Flush", func(k *keep.Keep) api.Errno { _, e := k.Flush(); return e })
	case 8:
		if g.Below(3) == 0 {
			var pairs []api.Pair
			for id := range g.Below(9) {
				pairs = append(pairs, api.Pair{ID: id, Code: g.code(w)})
			}
			seq := b.k.Seq() + 1 + g.Below(9)
			b.tried("Reset", func(k *keep.Keep) api.Errno { return k.Reset(seq, slices.Clone(pairs)) })
		}
	case 9:
		if g.Below(2) == 0 {
			b.drop()
		}
	default:
		pairs, seq := pairsOf(b.k), b.k.Seq()
		_, e := b.step()
		if e != api.ErrDown && !b.k.Disk().Down() && (pairsOf(b.k) != pairs || b.k.Seq() != seq) {
			b.t.Fatalf("16.9: %s: a Step has changed the pairs", b.where)
		}
		if e != api.OK && b.c.Busy() && !b.k.Disk().Down() {
			b.t.Fatalf("16.5: %s: Busy behind %d", b.where, e)
		}
	}
}
