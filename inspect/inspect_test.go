package inspect_test

import (
	"fmt"
	"slices"
	"testing"

	"kindred/api"
	"kindred/disk"
	"kindred/inspect"
	"kindred/keep"
	"kindred/run"
)

// example is the chapter's store; its last update is synced or not.
func example(t *testing.T, synced bool) *disk.Disk {
	t.Helper()
	d := disk.New(1 << 20)
	k, e := keep.Create(d, eight)
	answers(t, "15.4: Create", e, api.OK)
	for id := 5; id <= 7; id++ {
		answers(t, "15.7: Insert", k.Insert(id, z(byte(id))), api.OK)
	}
	flush(t, k)
	answers(t, "15.7: Insert", k.Insert(8, z(8)), api.OK)
	if synced {
		answers(t, "15.9: Sync", k.Sync(), api.OK)
	}
	return d
}

// tells: Check and then Repair tell these damages, and the store has pairs with these ids then.
func tells(t *testing.T, what string, d *disk.Disk, want []api.Damage, ids ...int) {
	t.Helper()
	writes := d.Writes()
	if list, e := inspect.Check(d); !slices.Equal(list, want) || e != api.OK || d.Writes() != writes {
		t.Fatalf("23.1: %s: %v, %d, want %v; %d writes", what, list, e, want, d.Writes()-writes)
	}
	if list, e := inspect.Repair(d); !slices.Equal(list, want) || e != api.OK {
		t.Fatalf("23.3: %s: %v, %d, want %v", what, list, e, want)
	}
	if (d.Writes() == writes) != (len(want) == 0) {
		t.Fatalf("23.3: %s: %d writes", what, d.Writes()-writes)
	}
	if list, e := inspect.Check(d); len(list) != 0 || e != api.OK {
		t.Fatalf("23.5: %s: behind Repair: %v, %d", what, list, e)
	}
	got := pairsOf(t, d)
	if !slices.Equal(idsOf(got), ids) {
		t.Fatalf("23.4: %s: %s, want %v", what, short(got), ids)
	}
	for _, p := range got {
		if p.Code != z(byte(p.ID)) {
			t.Fatalf("23.4: %s: the code of %d is %x", what, p.ID, p.Code)
		}
	}
}

func TestExamples(t *testing.T) {
	for _, synced := range []bool{false, true} {
		tells(t, "nothing is done", example(t, synced), nil, 5, 6, 7, 8)

		d := example(t, synced)
		whole := bytesOf(d, "j3")
		lay(d, "j9", "")
		lay(d, "notes", "mine")
		d.Append("j3", "abc")
		tells(t, "a tail and strays", d, []api.Damage{damage("j3", api.ErrLong), damage("j9", api.ErrExists)}, 5, 6, 7, 8)
		if isThere(d, "j9") || bytesOf(d, "notes") != "mine" || bytesOf(d, "j3") != whole {
			t.Errorf("23.3: a tail and strays: %q", d.Names())
		}

		d = example(t, synced)
		turn(d, "r2.3", 20, 1)
		d.Delete("r2.0")
		tells(t, "two files of a run", d, []api.Damage{damage("r2.0", api.ErrNone), damage("r2.3", api.ErrCorrupt)}, 5, 6, 7, 8)
		if got := fmt.Sprint(d.Names()); got != "[j5 manifest r4.0 r4.1 r4.2 r4.3 r4.4 r4.5 r4.6 r4.7]" {
			t.Errorf("23.3: two files of a run: %s", got)
		}

		d = example(t, synced)
		run.Delete(d, 2, eight)
		var eight8 []api.Damage
		for j := range 8 {
			eight8 = append(eight8, damage(rname(2, j), api.ErrNone))
		}
		tells(t, "a run that is gone", d, eight8, 8)

		d = example(t, synced)
		d.Delete("j3")
		tells(t, "no journal", d, []api.Damage{damage("j3", api.ErrNone)}, 5, 6, 7)

		d = example(t, synced)
		turn(d, "manifest", 3, 1)
		was := seen(d)
		if list, e := inspect.Check(d); !slices.Equal(list, []api.Damage{damage("manifest", api.ErrCorrupt)}) || e != api.OK {
			t.Errorf("23.1: a spoilt manifest: %v, %d", list, e)
		}
		if list, e := inspect.Repair(d); len(list) != 0 || e != api.ErrCorrupt || seen(d) != was {
			t.Errorf("23.3: a spoilt manifest: %v, %d", list, e)
		}
	}
}

// TestOtherWords: a file of other words, as many, of the same numbers: the first whole file counts.
func TestOtherWords(t *testing.T) {
	other := disk.New(1 << 20)
	list := []api.Entry{{Code: z(5), ID: 5, Seq: 1}, {Code: z(6), ID: 6, Seq: 3}, {Code: z(7), ID: 7, Seq: 2}}
	answers(t, "14.2: Write", run.Write(other, 2, eight, api.RunInfo{Hi: 3}, list), api.OK)
	for j := range 8 {
		d := example(t, true)
		name := rname(2, j)
		lay(d, name, bytesOf(other, name))
		want := []api.Damage{damage(name, api.ErrCorrupt)}
		if j == 0 {
			want = nil
			for i := 1; i < 8; i++ {
				want = append(want, damage(rname(2, i), api.ErrCorrupt))
			}
		}
		b := bothOf(t, name, d)
		if got, e := b.check(); !slices.Equal(got, want) || e != api.OK {
			t.Errorf("23.1: %s of other words: %v, want %v", name, got, want)
		}
		b.repair()
	}
	// A file that is whole for another table, or for other bounds, is not whole in this place.
	for _, lo := range []int{0, 1} {
		d := example(t, true)
		answers(t, "14.2: Write", run.Write(d, 1, eight, api.RunInfo{Lo: lo, Hi: 4}, []api.Entry{{Code: z(5), ID: 5, Seq: 2}, {Code: z(6), ID: 6, Seq: 3}, {Code: z(7), ID: 7, Seq: 4}}), api.OK)
		lay(d, "r2.0", bytesOf(d, "r1.0"))
		lay(d, "r2.4", bytesOf(d, "r2.5"))
		run.Delete(d, 1, eight)
		tells(t, "files of other heads", d, []api.Damage{damage("r2.0", api.ErrCorrupt), damage("r2.4", api.ErrCorrupt)}, 5, 6, 7, 8)
	}
}

// down lets the power go.
func down(d *disk.Disk) {
	d.Arm(1, false)
	d.Create("x")
}

// TestRefusals: without power, without a manifest, with a spoilt one, whatever else is there.
func TestRefusals(t *testing.T) {
	for name, do := range map[string]func(d *disk.Disk) ([]api.Damage, api.Errno){"Check": inspect.Check, "Repair": inspect.Repair} {
		for faults := range 16 {
			d := store(t, two)
			want := api.OK
			if faults&1 != 0 {
				d.Delete("r2.1")
				lay(d, "j77", "left over")
			}
			if faults&2 != 0 {
				turn(d, "manifest", 9, 4)
				want = api.ErrCorrupt
			}
			if faults&4 != 0 {
				lay(d, "manifest.new", bytesOf(d, "manifest"))
				d.Delete("manifest")
				want = api.ErrNone
			}
			if faults&8 != 0 {
				down(d)
				want = api.ErrDown
			}
			if want == api.OK || want == api.ErrCorrupt && name == "Check" {
				continue
			}
			was := seen(d)
			if list, e := do(d); len(list) != 0 || e != want || seen(d) != was {
				t.Errorf("23.1, 23.3: %s with faults %b: %v, %d, want %d", name, faults, list, e, want)
			}
			d.Crash(nil)
			if faults == 8 {
				if list, e := do(d); len(list) != 0 || e != api.OK {
					t.Errorf("23.1, 23.3: %s with the power back: %v, %d", name, list, e)
				}
			}
		}
		empty := disk.New(0)
		if list, e := do(empty); len(list) != 0 || e != api.ErrNone || empty.Writes() != 0 {
			t.Errorf("23.1, 23.3: %s of an empty disk: %v, %d", name, list, e)
		}
	}
	// A manifest that can't be read is told alone, whatever else is wrong.
	d := store(t, two)
	d.Delete("r2.1")
	lay(d, "j77", "left over")
	lay(d, "manifest", "")
	if list, e := bothOf(t, "an empty manifest", d).check(); len(list) != 1 || e != api.OK {
		t.Errorf("23.1: an empty manifest: %v, %d", list, e)
	}
}

// TestNewMemory: what is told is the caller's.
func TestNewMemory(t *testing.T) {
	d := store(t, two)
	d.Delete("r2.1")
	one, _ := inspect.Check(d)
	one[0] = damage("x", 1)
	if two, _ := inspect.Check(d); !slices.Equal(two, []api.Damage{damage("r2.1", api.ErrNone)}) {
		t.Errorf("23.1: %v", two)
	}
	if three, _ := inspect.Repair(d); !slices.Equal(three, []api.Damage{damage("r2.1", api.ErrNone)}) {
		t.Errorf("23.3: %v", three)
	}
}

// TestEveryByte: one byte of a file changed, the file cut short or missing, something put behind it.
func TestEveryByte(t *testing.T) {
	for _, o := range []api.Opts{two, treed, {Width: 128, Chunks: 5, Mode: 1}} {
		first := store(t, o)
		try := func(name, bytes string, gone bool) []api.Damage {
			t.Helper()
			b := bothOf(t, fmt.Sprintf("width %d, %s is %q", o.Width, name, bytes), first)
			b.disks(func(d *disk.Disk) {
				lay(d, name, bytes)
				if gone {
					d.Delete(name)
				}
			})
			list, e := b.check()
			b.repair()
			if gone && name == "manifest" {
				answers(t, "23.1: no manifest", e, api.ErrNone)
			} else if e != api.OK {
				t.Fatalf("23.1: %s: Check: %d", b.where, e)
			}
			return list
		}
		for _, name := range first.Names() {
			bytes := bytesOf(first, name)
			for i := range len(bytes) {
				changed := []byte(bytes)
				changed[i] ^= 1 << (i % 8)
				if list := try(name, string(changed), false); len(list) != 1 || list[0].Name != name {
					t.Fatalf("23.8: byte %d of %s is changed: %v", i, name, list)
				}
				if i%5 == 0 {
					try(name, bytes[:i], false)
				}
			}
			for _, more := range []string{"x", bytes, "\x00\x00\x00"} {
				try(name, bytes+more, false)
			}
			try(name, "", true)
		}
	}
}

// TestOneTableIsEnough (23.6): of each run all files but one are damaged.
func TestOneTableIsEnough(t *testing.T) {
	for left := range 64 {
		d := store(t, eight)
		want := pairsOf(t, d)
		b := bothOf(t, fmt.Sprintf("r2.%d and r4.%d are left", left%8, left/8), d)
		b.disks(func(d *disk.Disk) {
			for j := range 8 {
				if j != left%8 {
					turn(d, rname(2, j), 30+j, 2)
				}
				if j != left/8 {
					d.Delete(rname(4, j))
				}
			}
		})
		if list, e := b.repair(); len(list) != 14 || e != api.OK {
			t.Fatalf("23.3: %s: %v, %d", b.where, list, e)
		}
		if got := pairsOf(t, b.d); !slices.Equal(got, want) {
			t.Fatalf("23.6: %s: %s, want %s", b.where, short(got), short(want))
		}
	}
}

// TestRunsThatAreGone (23.4): what is left of a store whose run has no whole file.
func TestRunsThatAreGone(t *testing.T) {
	for _, o := range []api.Opts{eight, treed} {
		for n, c := range []struct {
			gone []int
			ids  []int
		}{
			{[]int{2}, []int{2, 3, 300, 1 << 48}}, // the dead words of the second run find nothing
			{[]int{4}, []int{1, 2, 3, 4, 5, 300}}, // what they said is forgotten; the journal's put of 3 counts all the same
			{[]int{2, 4}, []int{3, 300}},
		} {
			b := bothOf(t, fmt.Sprintf("mode %d, row %d", o.Mode, n), store(t, o))
			b.disks(func(d *disk.Disk) {
				for _, number := range c.gone {
					for j := range parts(o) {
						turn(d, rname(number, j), 11, 1)
					}
				}
			})
			b.check()
			b.repair()
			if got := idsOf(pairsOf(t, b.d)); !slices.Equal(got, c.ids) {
				t.Errorf("23.4: %s: %v, want %v", b.where, got, c.ids)
			}
			if k, _ := keep.Open(b.d); k.Seq() != 13 {
				t.Errorf("23.4: %s: S is %d", b.where, k.Seq())
			}
		}
	}
}

// TestStrays: files of ours that the manifest does not name; files of nobody stay.
func TestStrays(t *testing.T) {
	ours := []string{"j1", "j6", "j7", "j99", "manifest.new", "r1.0", "r2.2", "r2.127", "r4.10", "r6.0", "r7.1", "r1099511627776.127"}
	nobodys := []string{"j0", "j07", "manifest.old", "notes", "r1.128", "r2", "r2.01", "r4.0.1"}
	for _, o := range []api.Opts{two, treed} {
		for _, harm := range []bool{false, true} {
			b := bothOf(t, fmt.Sprintf("mode %d, harm %v", o.Mode, harm), store(t, o))
			b.disks(func(d *disk.Disk) {
				for _, name := range slices.Concat(ours, nobodys) {
					lay(d, name, "of "+name)
				}
				if harm {
					d.Delete("r2.0")
				}
			})
			list, _ := b.repair()
			want := len(ours)
			if harm {
				want++
			}
			if len(list) != want {
				t.Errorf("23.1: %s: %v", b.where, list)
			}
			for _, name := range nobodys {
				if bytesOf(b.d, name) != "of "+name {
					t.Errorf("23.3: %s: %s is touched", b.where, name)
				}
			}
		}
	}
}
