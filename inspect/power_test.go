package inspect_test

import (
	"fmt"
	"slices"
	"testing"

	"kindred/api"
	"kindred/disk"
	"kindred/inspect"
	"kindred/manifest"
	"kindred/run"
)

// kept are what is left of all files' unsynced bytes.
func kept(names []string) [][]api.Cut {
	list := [][]api.Cut{nil}
	for _, c := range []api.Cut{{Keep: 1}, {Keep: 33}, {Keep: 9999, Spoil: 1}, {Keep: 1 << 20}} {
		var cuts []api.Cut
		for _, name := range names {
			cuts = append(cuts, api.Cut{Name: name, Keep: c.Keep, Spoil: c.Spoil})
		}
		list = append(list, cuts)
	}
	return list
}

// scenes are stores with damages of all kinds, all bytes durable.
func scenes(t *testing.T, o api.Opts) map[string]*disk.Disk {
	t.Helper()
	all := map[string]*disk.Disk{
		"sound":         store(t, o),
		"apart":         forged(t, o, [][]api.Entry{{word(1, 1, 2), word(2, 1, 2), word(3, 3, 2)}}, journalOf(t, put(11, 5, z(5)))),
		"updates apart": forged(t, o, [][]api.Entry{{word(1, 1, 2)}}, journalOf(t, put(11, 1, z(5)))),
		"nothing saved": forged(t, o, [][]api.Entry{{word(1, 1, 2)}}, journalOf(t, dead(11, 1), dead(12, 1))),
	}
	for name, do := range map[string]func(d *disk.Disk){
		"strays and a tail": func(d *disk.Disk) {
			lay(d, "j5", bytesOf(d, "j5")+"abc")
			lay(d, "j7", "x")
			lay(d, "manifest.new", "y")
			lay(d, "r6.0", "z")
		},
		"a file is missing": func(d *disk.Disk) { d.Delete("r4.0") },
		"a file and strays": func(d *disk.Disk) {
			turn(d, "r2.0", 33, 8)
			lay(d, "j7", "x")
			lay(d, "manifest.new", "y")
			lay(d, "r6.0", "z")
			lay(d, "j5", bytesOf(d, "j5")+"abc")
		},
		"all runs are gone":     func(d *disk.Disk) { run.Delete(d, 2, o); run.Delete(d, 4, o) },
		"the journal is gone":   func(d *disk.Disk) { d.Delete("j5") },
		"the journal is spoilt": func(d *disk.Disk) { lay(d, "j5", bytesOf(d, "j5")+bytesOf(d, "j5")) },
	} {
		d := store(t, o)
		do(d)
		all[name] = d
	}
	return all
}

// TestPower (23.7): the power goes at every write of a Repair, in every way; Repair behind it comes to the same.
func TestPower(t *testing.T) {
	for _, o := range []api.Opts{two, treed} {
		for name, d := range scenes(t, o) {
			sure, _ := disk.Open(d.Image(), d.Room())
			if _, e := inspect.Repair(sure); e != api.OK {
				t.Fatalf("23.3: %s: %d", name, e)
			}
			want := pairsOf(t, sure)
			total := sure.Writes()
			for n := 1; n <= total+1; n++ {
				for _, done := range []bool{false, true} {
					for i, cuts := range kept(append(d.Names(), sure.Names()...)) {
						b := bothOf(t, fmt.Sprintf("%s, mode %d, cut at write %d, done %v, left %d", name, o.Mode, n, done, i), d)
						b.cut(n, done, cuts, n <= total)
						b.check()
						if _, e := b.repair(); e != api.OK {
							t.Fatalf("23.7: %s: Repair behind it: %d", b.where, e)
						}
						b.whole(want)
					}
				}
			}
		}
	}
}

// cut lets the power go in a Repair.
func (b *both) cut(n int, done bool, cuts []api.Cut, gone bool) {
	b.t.Helper()
	b.disks(func(d *disk.Disk) { d.Arm(n, done) })
	list, e := inspect.Repair(b.d)
	told, f := modelRepair(b.other)
	if !slices.Equal(list, told) || e != f || (e == api.ErrDown) != gone || b.d.Down() != gone {
		b.t.Fatalf("23.3: %s: Repair: %v, %d, want %v, %d", b.where, list, e, told, f)
	}
	b.disks(func(d *disk.Disk) { d.Crash(cuts) })
	b.agree("a power cut")
}

// TestPowerTwice (23.7): the Repair behind the cut is cut too.
func TestPowerTwice(t *testing.T) {
	d := scenes(t, two)["a file and strays"]
	sure, _ := disk.Open(d.Image(), d.Room())
	inspect.Repair(sure)
	want := pairsOf(t, sure)
	for n := 1; n <= sure.Writes(); n++ {
		for again := 1; again <= sure.Writes(); again++ {
			b := bothOf(t, fmt.Sprintf("cut at writes %d and %d", n, again), d)
			b.cut(n, again%2 == 0, nil, true)
			b.disks(func(d *disk.Disk) { d.Arm(again, n%2 == 0) })
			inspect.Repair(b.d)
			modelRepair(b.other)
			b.disks(func(d *disk.Disk) { d.Crash(nil) })
			b.agree("a second power cut")
			b.repair()
			b.whole(want)
		}
	}
}

// TestRoom (23.7): disks of every size: ErrFull leaves the manifest and all files that it names as they were, and nothing that was made.
func TestRoom(t *testing.T) {
	for _, o := range []api.Opts{two, treed} {
		for name, d := range scenes(t, o) {
			m, _ := manifest.Load(d)
			full, fine := 0, 0
			for room := d.Used(); fine < 2; room++ {
				b := bothOf(t, fmt.Sprintf("%s, mode %d, %d bytes", name, o.Mode, room), d)
				for _, x := range []**disk.Disk{&b.d, &b.other} {
					*x, _ = disk.Open(d.Image(), room)
				}
				_, e := b.repair()
				if e == api.OK {
					fine++
					continue
				}
				full++
				answers(t, "23.3: no room", e, api.ErrFull)
				if got := strays(b.d, m); len(got) != 0 {
					t.Fatalf("23.3: %s: %q are left", b.where, got)
				}
				for _, x := range names(m) {
					if isThere(d, x) != isThere(b.d, x) || bytesOf(d, x) != bytesOf(b.d, x) {
						t.Fatalf("23.7: %s: %s is changed", b.where, x)
					}
				}
			}
			// Without a run it is the manifest alone that wants room.
			if list, _ := inspect.Check(d); (full == 0) != isOpen(list) {
				t.Errorf("23.3: %s: %d sizes were too small", name, full)
			}
		}
	}
}

// TestRoomAndPower: the power goes while what was made is taken back: the answer is ErrFull all the same.
func TestRoomAndPower(t *testing.T) {
	d := scenes(t, two)["a file is missing"]
	for room := d.Used(); ; room++ {
		fits := false
		for n := 1; ; n++ {
			b := &both{t: t, where: fmt.Sprintf("%d bytes, cut at write %d", room, n)}
			for _, x := range []**disk.Disk{&b.d, &b.other} {
				*x, _ = disk.Open(d.Image(), room)
				(*x).Arm(n, n%2 == 0)
			}
			list, e := inspect.Repair(b.d)
			told, f := modelRepair(b.other)
			if e != f || !slices.Equal(list, told) {
				t.Fatalf("23.3: %s: %v, %d, want %v, %d", b.where, list, e, told, f)
			}
			fits = fits || e == api.OK
			cut := b.d.Down()
			b.disks(func(d *disk.Disk) { d.Crash(nil) })
			b.agree("a power cut")
			b.check()
			if !cut {
				break
			}
		}
		if fits {
			break
		}
	}
}

// TestMostFiles: a disk with as many files as it can have.
func TestMostFiles(t *testing.T) {
	for free := range 6 {
		d := store(t, two)
		turn(d, "r2.0", 33, 8)
		for n := range 4096 - free - len(d.Names()) {
			answers(t, "4.5: Create", d.Create(fmt.Sprint("x", n)), api.OK)
		}
		b := bothOf(t, fmt.Sprint(free, " files more"), d)
		want := api.ErrMany // two tables, the journal, manifest.new
		if free >= 4 {
			want = api.OK
		}
		if _, e := b.repair(); e != want {
			t.Errorf("23.3: %s: %d, want %d", b.where, e, want)
		}
	}
}
