package keep_test

import (
	"fmt"
	"slices"
	"testing"

	"kindred/api"
	"kindred/disk"
	"kindred/keep"
)

// imageOf is a store as the power cuts' is, all of it durable.
func imageOf(t *testing.T, o api.Opts) string {
	b := bothOn(t, "a store", 1<<20)
	stores(b, o, &history{})
	b.sync()
	return b.d.Image()
}

// squeezed is a store on disks that have room for so many bytes and files more.
func squeezed(t *testing.T, where, image string, room, files int) *both {
	t.Helper()
	b := bothOn(t, where, 0)
	used, _ := disk.Open(image, 1<<20)
	for _, d := range []**disk.Disk{&b.d, &b.other} {
		*d, _ = disk.Open(image, used.Used()+room)
		for i := len(used.Names()); i < 4096-files; i++ {
			(*d).Create(fmt.Sprint("filler", i))
		}
	}
	b.quiet = true
	answers(t, "15.18: Open needs no room", b.open(), api.OK)
	b.quiet = false
	return b
}

// asBefore is what a refusal for want of room must leave, but for numbers that were taken.
func asBefore(b *both) string {
	m := b.k.Seen()
	return fmt.Sprint(b.d.Names(), b.d.Used(), b.d.Image(), m.Seq, m.Journal, m.Runs, b.k.Seq(), b.k.Synced(), b.k.Pairs(0, 99), len(b.k.Runs()))
}

// fills are the calls that want room.
func fills(o api.Opts) map[string]func(b *both) api.Errno {
	code := func(c byte) string { return string(slices.Repeat([]byte{c}, o.Width/8)) }
	return map[string]func(b *both) api.Errno{
		"Insert": func(b *both) api.Errno { return b.insert(5, code(7)) },
		"Delete": func(b *both) api.Errno { return b.delete(1) },
		"Flush":  func(b *both) api.Errno { return b.flush() },
		"Reset": func(b *both) api.Errno {
			return b.reset(20, []api.Pair{{ID: 2, Code: code(4)}, {ID: 6, Code: code(0)}, {ID: 9, Code: code(4)}})
		},
		"Reset to none": func(b *both) api.Errno { return b.reset(20, nil) },
		"Swap":          func(b *both) api.Errno { return b.merge(2) },
	}
}

// TestFullDisk: every room from none to enough, and the power going while what was made is taken away.
func TestFullDisk(t *testing.T) {
	for _, o := range []api.Opts{{Width: 64, Chunks: 2, Mode: 1}, {Width: 64, Mode: 2}} {
		image := imageOf(t, o)
		for name, call := range fills(o) {
			for room := 0; ; room++ {
				b := squeezed(t, fmt.Sprintf("%s of mode %d, room %d", name, o.Mode, room), image, room, 4096)
				was, writes := asBefore(b), b.d.Writes()
				e := call(b)
				if e == api.OK {
					break
				}
				answers(t, "15.18: "+b.where, e, api.ErrFull)
				if asBefore(b) != was {
					t.Fatalf("15.18: %s: ErrFull leaves %q", b.where, b.d.Names())
				}
				b.agree("a full disk")
				b.twice()
				for n := 1; room%9 == 0 && n <= b.d.Writes()-writes; n++ {
					cutWhileFull(t, image, room, n, call)
				}
			}
		}
	}
}

// cutWhileFull: the power goes at a write of a call that finds no room, be it one that takes away what it has made; then nothing is lost.
func cutWhileFull(t *testing.T, image string, room, n int, call func(b *both) api.Errno) {
	t.Helper()
	for _, done := range []bool{false, true} {
		b := squeezed(t, fmt.Sprintf("room %d, cut at %d, %v", room, n, done), image, room, 4096)
		was, pairs := b.k.Seq(), fmt.Sprint(b.k.Pairs(0, 99))
		b.arm(n, done)
		if e := call(b); e != api.ErrFull && e != api.ErrDown || !b.d.Down() {
			t.Fatalf("15.10: %s: %d", b.where, e)
		}
		b.gone()
		b.crash(nil)
		b.gone()
		if e := b.open(); e != api.OK || b.k.Seq() != was || fmt.Sprint(b.k.Pairs(0, 99)) != pairs {
			t.Fatalf("15.16: %s: Open: %d", b.where, e)
		}
	}
}

// TestManyFiles: the disk takes a few more files alone.
func TestManyFiles(t *testing.T) {
	for _, o := range []api.Opts{{Width: 64, Chunks: 2, Mode: 1}, {Width: 64, Mode: 2}} {
		image := imageOf(t, o)
		for name, call := range fills(o) {
			for files := 0; ; files++ {
				b := squeezed(t, fmt.Sprintf("%s of mode %d, %d more files", name, o.Mode, files), image, 9999, files)
				b.quiet = true // there are many files
				was := asBefore(b)
				e := call(b)
				if b.d.Image() != b.other.Image() || b.d.Writes() != b.other.Writes() {
					t.Fatalf("15.10: %s: other files than there should be", b.where)
				}
				b.agree("too many files")
				if e == api.OK {
					break
				}
				answers(t, "15.10: "+b.where, e, api.ErrMany)
				if asBefore(b) != was {
					t.Fatalf("15.10: %s: ErrMany leaves something", b.where)
				}
			}
		}
	}
	for files := range 4 {
		b := bothOn(t, fmt.Sprintf("Create with %d more files", files), 9999)
		b.quiet = true
		b.disks(func(d *disk.Disk) {
			put(d, "j7", "left over")
			for i := 1; i < 4096-files; i++ {
				d.Create(fmt.Sprint("filler", i))
			}
		})
		want := api.OK
		if files < 1 { // the one that was left over goes, and makes room for one
			want = api.ErrMany
		}
		answers(t, "15.4: "+b.where, b.create(api.Opts{Width: 64, Mode: 2}), want)
		if names := b.d.Names(); want != api.OK && (len(names) != 4095 || b.d.Image() != b.other.Image()) {
			t.Errorf("15.4: %s: %d files are left", b.where, len(names))
		}
	}
}

// TestCreateWithoutRoom: what an earlier one had left is gone all the same.
func TestCreateWithoutRoom(t *testing.T) {
	for _, o := range []api.Opts{{Width: 64, Chunks: 8, Mode: 1}, {Width: 1024, Mode: 2}} {
		for room := range 40 {
			for n := range 12 {
				b := bothOn(t, fmt.Sprintf("Create with room %d, cut at %d", room, n), room+5)
				b.disks(func(d *disk.Disk) {
					put(d, "j1", "")
					put(d, "r5.0", "")
					put(d, "notes", "words")
				})
				b.arm(n, n%2 == 0)
				e := b.create(o)
				if n > 0 {
					continue
				}
				if e == api.OK && room < 21 || e == api.ErrFull && (room > 23 || fmt.Sprint(b.d.Names()) != "[notes]") || e != api.OK && e != api.ErrFull {
					t.Fatalf("15.4: %s: %d, %q", b.where, e, b.d.Names())
				}
			}
		}
	}
}

// TestAFullStore: as many pairs as there is room for; and a greater disk.
func TestAFullStore(t *testing.T) {
	b := bothOn(t, "a full store", 700)
	b.create(api.Opts{Width: 64, Chunks: 4, Mode: 1})
	n := 0
	for b.insert(n, z(byte(n))) == api.OK {
		n++
	}
	if n < 10 || b.k.Count() != n {
		t.Fatalf("15.18: %d pairs", n)
	}
	answers(t, "15.7: Insert", b.insert(n, z(0)), api.ErrFull)
	answers(t, "15.9: Sync", b.sync(), api.OK)
	answers(t, "15.10: Flush", b.flush(), api.ErrFull)
	answers(t, "15.14: Reset", b.reset(999, []api.Pair{{ID: 1, Code: z(1)}}), api.ErrFull)
	b.twice()
	d, _ := disk.Open(b.d.Image(), 100000)
	k, e := keep.Open(d)
	if e != api.OK || k.Count() != n {
		t.Fatal("15.18: a greater disk:", e)
	}
	if some, e := k.Flush(); !some || e != api.OK || k.Count() != n {
		t.Fatal("15.18: a greater disk:", e)
	}
}
