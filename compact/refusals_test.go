package compact_test

import (
	"fmt"
	"slices"
	"testing"

	"kindred/api"
	"kindred/disk"
	"kindred/keep"
	"kindred/manifest"
	"kindred/run"
)

// all is how many Steps a compaction of twoRuns has: it begins, one a table, the swap.
func all(o api.Opts) int { return 2 + max(1, o.Chunks) }

// imagesOf are stores with two runs, without updates that wait and with one, all of it durable.
func imagesOf(t *testing.T, o api.Opts) []string {
	t.Helper()
	b := bothOn(t, "a store", o, 1<<20)
	twoRuns(b)
	first := b.k.Disk().Image()
	b.insert(9, same(9))
	b.sync()
	return []string{first, b.k.Disk().Image()}
}

// TestDrop: at every place of a compaction; then none is under way, and there is no trace but the number.
func TestDrop(t *testing.T) {
	for _, o := range []api.Opts{two, treed, eight} {
		for at := range all(o) + 1 {
			b := bothOn(t, fmt.Sprintf("%+v, Drop behind %d Steps", o, at), o, 1<<20)
			twoRuns(b)
			names, told := b.k.Disk().Names(), pairsOf(b.k)
			b.steps(at)
			if b.c.Busy() != (at > 0 && at < all(o)) {
				t.Fatalf("16.6: %s: Busy %v", b.where, b.c.Busy())
			}
			if at == all(o) {
				names = b.k.Disk().Names()
			}
			for range 2 {
				if e := b.drop(); e != api.OK || b.c.Busy() || !slices.Equal(b.k.Disk().Names(), names) || pairsOf(b.k) != told {
					t.Fatalf("16.6: %s: %d, %q", b.where, e, b.k.Disk().Names())
				}
			}
			next := 6
			if at > 0 {
				next++
			}
			if got := b.k.Seen().Next; got != next {
				t.Fatalf("16.4: %s: the next number is %d, want %d", b.where, got, next)
			}
			b.toTheEnd()
		}
	}
}

// TestTakenAway: the runs that a compaction has taken are not there any more; it is forgotten, and the Step does what there is to do then.
func TestTakenAway(t *testing.T) {
	one := []api.Pair{{ID: 1, Code: same(1)}}
	ways := map[string]func(b *both){
		"a Reset":             func(b *both) { b.reset(50, one...) },
		"a Reset to none":     func(b *both) { b.reset(50) },
		"a Reset and updates": func(b *both) { b.reset(50, one...); b.insert(9, same(9)) },
		"a Reset and runs": func(b *both) {
			b.reset(50, one...)
			b.insert(9, same(9))
			b.flush()
			b.delete(1)
			b.flush()
		},
		"a Swap of all":       func(b *both) { b.swap(2) },
		"a Swap of the first": func(b *both) { b.swap(1) },
		"a Swap, updates":     func(b *both) { b.swap(2); b.delete(5) },
		"a Swap for none": func(b *both) {
			b.delete(5)
			b.delete(7)
			b.flush()
			b.swap(3)
		},
		"very many runs": func(b *both) {
			b.reset(50, one...)
			for id := range 23 {
				b.insert(100+id, same(byte(id)))
				b.flush()
			}
			b.insert(1000, same(9))
		},
	}
	for _, o := range []api.Opts{two, treed} {
		for name, do := range ways {
			for at := 1; at < all(o); at++ {
				b := bothOn(t, fmt.Sprintf("%+v, %s behind %d Steps", o, name, at), o, 1<<20)
				twoRuns(b)
				b.steps(at)
				do(b)
				if !b.c.Busy() {
					t.Fatalf("16.6: %s: not Busy, and nothing was forgotten yet", b.where)
				}
				left := b.c.Left()
				done, e := b.step()
				if e != api.OK || done != (left == 0) {
					t.Fatalf("16.2: %s: %v, %d", b.where, done, e)
				}
				if slices.Contains(b.k.Disk().Names(), "r6.0") {
					t.Fatalf("16.5: %s: %q", b.where, b.k.Disk().Names())
				}
				b.toTheEnd()
			}
		}
	}
}

// swap puts a run of the last words of the first n runs in their place, as anybody may.
func (b *both) swap(n int) {
	b.t.Helper()
	b.keeps("Swap", func(k *keep.Keep) api.Errno {
		o, runs := k.Seen().Opts, k.Runs()[:n]
		list := alive(runs)
		if len(list) == 0 {
			return k.Swap(n, nil)
		}
		number, _ := k.Number()
		info := api.RunInfo{Number: number, Lo: runs[0].Info().Lo, Hi: runs[n-1].Info().Hi, Count: len(list)}
		if e := run.Write(k.Disk(), number, o, info, list); e != api.OK {
			return e
		}
		r, e := run.Open(k.Disk(), o, info)
		if e != api.OK {
			return e
		}
		return k.Swap(n, r)
	})
}

// TestTakenAwayWithoutPower: what was forgotten is deleted by rising tables, and where the power goes there ErrDown is the answer.
func TestTakenAwayWithoutPower(t *testing.T) {
	for _, drop := range []bool{false, true} {
		for n := 1; n <= 9; n++ {
			for _, done := range []bool{false, true} {
				b := bothOn(t, fmt.Sprintf("Drop %v, cut at %d, done %v", drop, n, done), eight, 1<<20)
				twoRuns(b)
				b.steps(1 + 8)
				if !drop {
					b.reset(50, api.Pair{ID: 1, Code: same(1)})
				}
				b.arm(n, done)
				var e api.Errno
				if drop {
					e = b.drop()
				} else {
					_, e = b.step()
				}
				if cut := n <= 8; b.k.Disk().Down() != cut || (e == api.ErrDown) != cut || !cut && e != api.OK {
					t.Fatalf("16.5: %s: %d", b.where, e)
				}
				if n == 9 {
					continue
				}
				b.gone()
				b.crash(nil)
				b.gone()
				var want []string
				first := n - 1
				if done {
					first = n
				}
				for j := first; j < 8; j++ {
					want = append(want, rname(6, j))
				}
				var got []string
				for _, name := range b.k.Disk().Names() {
					if name[:2] == "r6" {
						got = append(got, name)
					}
				}
				if !slices.Equal(got, want) {
					t.Fatalf("16.5: %s: %q are left, want %q", b.where, got, want)
				}
				if e := b.reopen(); e != api.OK {
					t.Fatalf("16.11: %s: %d", b.where, e)
				}
				b.toTheEnd()
			}
		}
	}
}

// squeezed is a store on disks that have room for so many bytes and files more.
func squeezed(t *testing.T, where, image string, room, files int) *both {
	t.Helper()
	used, _ := disk.Open(image, 1<<20)
	b := bothOf(t, where, image, used.Used()+room)
	b.disks(func(d *disk.Disk) {
		for i := len(used.Names()); i < 4096-files; i++ {
			d.Create(fmt.Sprint("filler", i))
		}
	})
	return b
}

// TestFullDisk: every room from none to enough: a Step that finds none leaves no trace but its number.
func TestFullDisk(t *testing.T) {
	for _, o := range []api.Opts{two, treed} {
		seen := map[string]int{}
		for _, image := range imagesOf(t, o) {
			for room := 0; ; room += 3 {
				b := squeezed(t, fmt.Sprintf("%+v, room %d", o, room), image, room, 4096)
				if !fill(b, api.ErrFull, seen) {
					break
				}
				if room%9 == 0 {
					cutWhileFull(t, o, image, room)
				}
			}
		}
		for _, where := range []string{"a flush", "a piece"} {
			if seen[where] == 0 {
				t.Errorf("16.5: %+v: no room for %s was never seen", o, where)
			}
		}
	}
}

// fill makes Steps up to a refusal, for which this must be the reason, and then once more: was there one?
func fill(b *both, why api.Errno, seen map[string]int) bool {
	b.t.Helper()
	refused := false
	for range 2 {
		var names []string
		for {
			if !b.c.Busy() {
				names = b.k.Disk().Names()
			}
			place, pairs, next := placeOf(b), pairsOf(b.k), b.k.Seen().Next
			done, e := b.step()
			if done {
				return refused
			}
			if e == api.OK {
				continue
			}
			seen[place]++
			refused = true
			if e != why || b.c.Busy() || !slices.Equal(b.k.Disk().Names(), names) || pairsOf(b.k) != pairs || b.k.Seen().Next != next {
				b.t.Fatalf("16.5: %s: %s: %d, Busy %v, %q, want %q", b.where, place, e, b.c.Busy(), b.k.Disk().Names(), names)
			}
			break
		}
	}
	return refused
}

// placeOf is what the next Step will do.
func placeOf(b *both) string {
	switch u := b.m.under; {
	case u == nil:
		return "a flush"
	case u.done < b.m.tables():
		return "a piece"
	}
	return "the swap"
}

// cutWhileFull: the power goes at each write of the Step that finds no room, be it one that takes away what was made.
func cutWhileFull(t *testing.T, o api.Opts, image string, room int) {
	t.Helper()
	for n := 1; ; n++ {
		for _, done := range []bool{false, true} {
			b := squeezed(t, fmt.Sprintf("%+v, room %d, cut at %d, %v", o, room, n, done), image, room, 4096)
			pairs := pairsOf(b.k)
			b.arm(n, done)
			var e api.Errno
			for e == api.OK {
				_, e = b.step()
			}
			if !b.k.Disk().Down() {
				return
			}
			if e != api.ErrFull && e != api.ErrDown {
				t.Fatalf("16.5: %s: %d", b.where, e)
			}
			b.gone()
			b.crash(nil)
			b.gone()
			if e := b.reopen(); e != api.OK || pairsOf(b.k) != pairs {
				t.Fatalf("16.11: %s: Open: %d", b.where, e)
			}
		}
	}
}

// TestNoRoomForTheSwap: the new run's files stand, but there is no room for a manifest.
func TestNoRoomForTheSwap(t *testing.T) {
	for _, o := range []api.Opts{two, treed} {
		for _, more := range []int{0, 1, 20} {
			b := bothOn(t, fmt.Sprintf("%+v, %d bytes are left for the manifest", o, more), o, 2000)
			twoRuns(b)
			names := b.k.Disk().Names()
			b.steps(all(o) - 1)
			b.disks(func(d *disk.Disk) {
				d.Create("filler")
				d.Append("filler", string(make([]byte, d.Room()-d.Used()-more)))
			})
			b.refused("16.5", api.ErrFull)
			b.disks(func(d *disk.Disk) { d.Delete("filler") })
			b.hasNames("16.5", names)
			b.toTheEnd()
		}
	}
}

// TestManyFiles: the disk takes a few more files alone.
func TestManyFiles(t *testing.T) {
	for _, o := range []api.Opts{two, treed} {
		seen := map[string]int{}
		for _, image := range imagesOf(t, o) {
			for files := 0; ; files++ {
				b := squeezed(t, fmt.Sprintf("%+v, %d more files", o, files), image, 9999, files)
				b.quiet = true
				if !fill(b, api.ErrMany, seen) {
					break
				}
			}
		}
		for _, where := range []string{"a flush", "a piece", "the swap"} {
			if seen[where] == 0 {
				t.Errorf("16.5: %+v: too many files for %s was never seen", o, where)
			}
		}
	}
}

// TestInTheWay: somebody has made a file of a name that a compaction wants: it stays.
func TestInTheWay(t *testing.T) {
	for _, o := range []api.Opts{eight, treed} {
		for j := range max(1, o.Chunks) {
			b := bothOn(t, fmt.Sprintf("%+v, table %d", o, j), o, 1<<20)
			twoRuns(b)
			names := b.k.Disk().Names()
			b.disks(func(d *disk.Disk) { put(d, rname(6, j), "in the way") })
			names = append(names, rname(6, j))
			slices.Sort(names)
			b.steps(1 + j)
			b.refused("16.5", api.ErrExists)
			if b.c.Busy() || bytesOf(b.k.Disk(), rname(6, j)) != "in the way" {
				t.Fatalf("16.5: %s: Busy %v", b.where, b.c.Busy())
			}
			b.hasNames("16.5", names)
			b.disks(func(d *disk.Disk) { d.Delete(rname(6, j)) })
			b.toTheEnd() // under another number
		}
	}
}

// TestSpoiled: somebody has changed, or taken away, a file that a compaction has made: the last piece is refused, and no file is left.
func TestSpoiled(t *testing.T) {
	for _, o := range []api.Opts{eight, treed} {
		for j := range max(1, o.Chunks) {
			for name, spoil := range map[string]func(d *disk.Disk){
				"a byte more": func(d *disk.Disk) { d.Append(rname(6, j), "x") },
				"cut":         func(d *disk.Disk) { d.Cut(rname(6, j), 9) },
				"gone":        func(d *disk.Disk) { d.Delete(rname(6, j)) },
			} {
				b := bothOn(t, fmt.Sprintf("%+v, table %d, %s", o, j, name), o, 1<<20)
				twoRuns(b)
				names := b.k.Disk().Names()
				b.steps(all(o) - 1)
				b.disks(spoil)
				b.refused("16.5", api.ErrCorrupt)
				b.hasNames("16.5", names)
				b.steps(all(o) - 1)
				b.disks(func(d *disk.Disk) { d.Delete(rname(7, j)) })
				if e := b.drop(); e != api.OK {
					t.Fatalf("16.6: %s: a file that is gone: %d", b.where, e)
				}
				b.hasNames("16.6", names)
				b.toTheEnd()
			}
		}
	}
}

// TestWorn: there is no number for a compaction, or for a flush: nothing has begun, nothing was written.
func TestWorn(t *testing.T) {
	const last = 1 << 40
	for _, o := range []api.Opts{two, treed} {
		for next := last - 4; next <= last; next++ {
			b := bothOn(t, fmt.Sprintf("%+v, the next number is %d", o, next), o, 1<<20)
			twoRuns(b)
			b.disks(func(d *disk.Disk) {
				m, _ := manifest.Load(d)
				m.Next = next
				manifest.Store(d, m)
			})
			b.reopen()
			image := b.k.Disk().Image()
			if next < last {
				b.toTheEnd()
			} else {
				was := seenOf(b.k.Disk())
				for range 2 {
					b.refused("16.4", api.ErrWorn)
					if b.c.Busy() || seenOf(b.k.Disk()) != was {
						t.Fatalf("16.4: %s: something has begun", b.where)
					}
				}
				b.hasLeft(all(o))
			}
			b = bothOf(t, b.where, image, 1<<20)
			b.insert(99, same(9))
			if next+2 <= last {
				b.steps(1)
				continue
			}
			was := seenOf(b.k.Disk())
			b.refused("16.2", api.ErrWorn)
			if seenOf(b.k.Disk()) != was {
				t.Fatalf("16.2: %s: a flush that is refused has written", b.where)
			}
		}
	}
}

// TestAFlushIsRefused: that is the Step's answer, and the next one tries again.
func TestAFlushIsRefused(t *testing.T) {
	b := bothOn(t, "no room for a flush", two, 700)
	b.insert(1, same(1))
	b.disks(func(d *disk.Disk) { put(d, "filler", string(make([]byte, d.Room()-d.Used()))) })
	for range 3 {
		b.refused("16.2", api.ErrFull)
		b.hasLeft(5)
	}
	b.disks(func(d *disk.Disk) { d.Delete("filler") })
	b.toTheEnd()
}
