package engine_test

import (
	"fmt"
	"maps"
	"testing"

	"kindred/api"
	"kindred/disk"
)

// kept are what is left of the files' unsynced bytes.
func kept() [][]api.Cut {
	var list [][]api.Cut
	for _, keep := range []int{0, 1, 20, 33, 9999} {
		for _, spoil := range []byte{0, 1} {
			var cuts []api.Cut
			for _, name := range []string{"manifest.new", "j1", "j5", "j7", "j8", "r6.0", "r6.1", "r8.0", "r8.1"} {
				cuts = append(cuts, api.Cut{Name: name, Keep: keep, Spoil: spoil})
			}
			list = append(list, cuts)
			if keep == 0 {
				break
			}
		}
	}
	return list
}

// stores makes a store up to the call that is tried: two runs, a synced update, two that are not.
func stores(b *both, o api.Opts) {
	b.t.Helper()
	b.quiet = true
	defer func() { b.quiet = false }()
	b.must("Create", b.create(o))
	twoRuns(b)
	b.must("Insert", b.insert(8, z(1)))
	b.must("Sync", b.sync())
	b.must("Delete", b.delete(5))
	b.must("Insert", b.insert(9, z(3)))
}

// would is what an update that is under way would make.
func (b *both) would(id int, code string) *state {
	to := &state{seq: b.k.Seq() + 1, pairs: maps.Clone(b.pairs)}
	if code == "" {
		delete(to.pairs, id)
	} else {
		to.pairs[id] = code
	}
	return to
}

// tries are the calls in which the power is cut, each with what it would make of the pairs.
func tries() map[string]func(b *both) *state {
	return map[string]func(b *both) *state{
		"Insert": func(b *both) *state { to := b.would(4, z(9)); b.insert(4, z(9)); return to },
		"Delete": func(b *both) *state { to := b.would(7, ""); b.delete(7); return to },
		"Sync":   func(b *both) *state { b.sync(); return nil },
		"Close":  func(b *both) *state { b.close(); return nil },
		"CompactStep": func(b *both) *state {
			for !b.off() {
				if done, e := b.step(); done || e != api.OK {
					break
				}
			}
			return nil
		},
		"Open": func(b *both) *state {
			b.disks(func(d *disk.Disk) {
				d.Create("j99")
				d.Append("j99", "left over")
				d.Create("r77.0")
				d.Create("manifest.new")
			})
			b.open()
			return nil
		},
	}
}

// TestPowerCuts: the power goes at every write of every call, with a step of names done or not, and whatever is left; then at a write of the Open behind it.
func TestPowerCuts(t *testing.T) {
	for _, o := range []api.Opts{two, treed} {
		for name, try := range tries() {
			cut := true
			for n := 1; cut; n++ {
				for _, done := range []bool{false, true} {
					for i, cuts := range kept() {
						b := bothOn(t, fmt.Sprintf("%s of mode %d, cut at write %d, done %v, left %d", name, o.Mode, n, done, i), 1<<20)
						stores(b, o)
						cut = cutAt(b, n, done, i, cuts, try)
					}
				}
			}
		}
	}
}

// cutAt makes the call while the power goes, and goes on behind that: has it gone?
func cutAt(b *both, n int, done bool, i int, cuts []api.Cut, try func(b *both) *state) bool {
	b.t.Helper()
	b.arm(n, done)
	under := try(b)
	cut := b.d.Down()
	if !cut {
		under = nil
	}
	b.crash(cuts)
	b.agree("a power cut")
	b.back((n+i)%5, done, cuts)
	b.survives(under)
	b.twice()
	b.must("Insert", b.insert(12, z(12)))
	b.must("Delete", b.delete(7+b.past.hasNo(7)))
	if i == 0 {
		b.toTheEnd()
	}
	return cut
}

// hasNo is 5, if the pair of this id does not live: then there is that of 12.
func (h *history) hasNo(id int) int {
	if _, lives := h.all[len(h.all)-1].pairs[id]; lives {
		return 0
	}
	return 5
}

// TestCreateCut: the power goes at every write of Create: there is no store, and Create makes one; or there is an empty one.
func TestCreateCut(t *testing.T) {
	for _, o := range []api.Opts{two, treed} {
		cut := true
		for n := 1; cut; n++ {
			for _, done := range []bool{false, true} {
				for i, cuts := range kept() {
					b := bothOn(t, fmt.Sprintf("Create of mode %d, cut at write %d, done %v, left %d", o.Mode, n, done, i), 1<<20)
					b.disks(func(d *disk.Disk) {
						put(d, "j9", "an old one")
						put(d, "notes", "nobody's")
					})
					b.arm(n, done)
					e := b.create(o)
					if cut = b.d.Down(); cut && e != api.ErrDown || !cut && e != api.OK {
						t.Fatalf("17.1: %s: %d", b.where, e)
					}
					b.crash(cuts)
					if e = b.open(); e == api.ErrNone {
						e = b.create(o)
					}
					if e != api.OK || b.e.Count() != 0 || b.e.Seq() != 0 || b.e.Opts() != o {
						t.Fatalf("17.12: %s: %d", b.where, e)
					}
					b.twice()
				}
			}
		}
	}
}

// TestWalks: made-up calls on made-up stores, with power cuts, full disks, closings and openings between.
func TestWalks(t *testing.T) {
	for seed := range 150 {
		walk(t, seed)
	}
}

func walk(t *testing.T, seed int) {
	g := from(seed)
	o := g.opts()
	b := bothOn(t, fmt.Sprint("walk ", seed), []int{1 << 20, 1 << 20, 2000 + g.Below(9000)}[g.Below(3)])
	b.must("Create", b.create(o))
	for range 70 {
		if g.Below(12) == 0 {
			b.arm(1+g.Below(12), g.Below(2) == 0)
		}
		under := call(b, g)
		if !b.d.Down() && g.Below(40) > 0 {
			continue
		}
		if !b.d.Down() {
			under = nil
		}
		b.crash(g.cuts(b.k.Seen().Next))
		b.agree("a power cut")
		b.back(g.Below(4), g.Below(2) == 0, g.cuts(b.k.Seen().Next))
		b.survives(under)
	}
	b.arm(0, false)
	if b.d.Room() == 1<<20 {
		b.toTheEnd()
	}
}

// call makes one call: it is what it would make of the pairs, if the power goes in it.
func call(b *both, g maker) *state {
	b.t.Helper()
	w := b.k.Seen().Width
	switch g.Below(20) {
	case 0, 1, 2, 3, 4, 5:
		id, code := g.Below(12), g.code(w)
		_, lives := b.pairs[id]
		to := b.would(id, code)
		if b.insert(id, code); !lives {
			return to
		}
	case 6, 7, 8:
		id := g.Below(12)
		_, lives := b.pairs[id]
		to := b.would(id, "")
		if b.delete(id); lives {
			return to
		}
	case 9, 10:
		b.sync()
	case 11:
		b.close()
		if !b.d.Down() {
			if e := b.open(); e == api.ErrDown {
				return nil
			}
		}
	case 12:
		b.open()
	default:
		b.step()
	}
	return nil
}
