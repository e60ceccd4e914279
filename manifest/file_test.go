package manifest_test

import (
	"fmt"
	"slices"
	"strconv"
	"strings"
	"testing"

	"kindred/api"
	"kindred/disk"
	"kindred/internal/sample"
	"kindred/manifest"
)

const (
	there = "manifest"
	fresh = "manifest.new"
)

// bytesOf are all bytes of a file.
func bytesOf(d *disk.Disk, name string) string {
	n, _ := d.Size(name)
	b, _ := d.Read(name, 0, n)
	return b
}

// state is all that a disk tells.
func state(d *disk.Disk) string {
	var b strings.Builder
	fmt.Fprintf(&b, "%x %d %d %d %d %v", d.Image(), d.Used(), d.Room(), d.Age(), d.Writes(), d.Down())
	for _, name := range d.Names() {
		fmt.Fprintf(&b, " %s %x", name, bytesOf(d, name))
	}
	return b.String()
}

// with puts a file on a disk, with durable and with unsynced bytes.
func with(t *testing.T, d *disk.Disk, name, durable, loose string) {
	t.Helper()
	for _, e := range []api.Errno{d.Create(name), d.Append(name, durable), d.Sync(name), d.Append(name, loose)} {
		if e != api.OK {
			t.Fatalf("no file %s: %d", name, e)
		}
	}
}

// stored is a disk with the chapter's manifest.
func stored(t *testing.T, capacity int) *disk.Disk {
	t.Helper()
	d := disk.New(capacity)
	if e := manifest.Store(d, chapter()); e != api.OK {
		t.Fatalf("8.5: Store(M) = %d", e)
	}
	return d
}

// wantLoad: Load answers this manifest and changes nothing.
func wantLoad(t *testing.T, where string, d *disk.Disk, want api.Manifest, errno api.Errno) {
	t.Helper()
	was := state(d)
	if m, e := manifest.Load(d); !same(m, want) || e != errno {
		t.Fatalf("%s: Load = %s, %d, want %s, %d", where, told(m), e, told(want), errno)
	}
	if is := state(d); is != was {
		t.Fatalf("8.4: %s: Load has changed the disk: %.300s, then %.300s", where, was, is)
	}
}

func TestLoad(t *testing.T) {
	d := disk.New(2000)
	wantLoad(t, "8.4: an empty disk", d, api.Manifest{}, api.ErrNone)
	with(t, d, fresh, bytesFor(chapter()), "")
	with(t, d, "manifest.old", bytesFor(chapter()), "")
	wantLoad(t, "8.4: files of other names", d, api.Manifest{}, api.ErrNone)
	good := bytesFor(rows(3))
	for _, c := range []struct {
		b string
		m api.Manifest
		e api.Errno
	}{
		{good, rows(3), api.OK},
		{"", api.Manifest{}, api.ErrCorrupt}, {"x", api.Manifest{}, api.ErrCorrupt}, {good[:len(good)-1], api.Manifest{}, api.ErrCorrupt}, {good + "x", api.Manifest{}, api.ErrCorrupt}, {good + good, api.Manifest{}, api.ErrCorrupt}, {good[1:], api.Manifest{}, api.ErrCorrupt},
		{framed(2, packed(numbersOf(rows(3))...)), api.Manifest{}, api.ErrCorrupt}, {framed(3, ""), api.Manifest{}, api.ErrCorrupt}, {framed(3, packed(1<<60+1)), api.Manifest{}, api.ErrCorrupt}, {framed(3, "\x81\x00"), api.Manifest{}, api.ErrCorrupt}, {framed(3, strings.Repeat("\xff", 10)), api.Manifest{}, api.ErrCorrupt},
		{framed(3, packed(63, 2, 1, 5, 4, 3, 0)), api.Manifest{}, api.ErrCorrupt}, {framed(3, packed(64, 2, 3, 5, 4, 3, 0)), api.Manifest{}, api.ErrCorrupt}, {framed(3, packed(64, 1, 1, 5, 4, 3, 0)), api.Manifest{}, api.ErrCorrupt}, {framed(3, packed(64, 2, 1, 5, 3, 3, 0)), api.Manifest{}, api.ErrCorrupt},
	} {
		for _, durable := range []int{0, len(c.b) / 2, len(c.b)} { // all bytes are read, durable or not
			d := disk.New(2000)
			with(t, d, there, c.b[:durable], c.b[durable:])
			with(t, d, fresh, bytesFor(chapter()), "")
			wantLoad(t, fmt.Sprintf("8.4: a file %q", c.b), d, c.m, c.e)
			d.Arm(1, false)
			wantLoad(t, "8.4: an armed disk", d, c.m, c.e)
			d.Sync(there)
			wantLoad(t, "8.4: the power is off", d, api.Manifest{}, api.ErrDown)
		}
	}
	d = disk.New(10)
	d.Create("a")
	d.Arm(1, true)
	d.Sync("a")
	wantLoad(t, "8.4: off, and no file", d, api.Manifest{}, api.ErrDown)
}

func TestStoreOfTheChapter(t *testing.T) {
	d := disk.New(1000)
	if e := manifest.Store(d, chapter()); e != api.OK || d.Writes() != 4 {
		t.Errorf("8.5: Store(M) = %d, with %d writes", e, d.Writes())
	}
	wantLoad(t, "8.5: behind Store(M)", d, chapter(), api.OK)
	if names := d.Names(); !slices.Equal(names, []string{there}) || bytesOf(d, there) != bytesFor(chapter()) {
		t.Errorf("8.5: behind Store(M): files %q, %s", names, short(bytesOf(d, there)))
	}
	d.Arm(4, false)
	if e := manifest.Store(d, next(9)); e != api.ErrDown || !d.Down() {
		t.Errorf("8.5: the power gone at the fourth write: %d, off %v", e, d.Down())
	}
	d.Crash(nil)
	wantLoad(t, "8.8: the rename not done", d, chapter(), api.OK)
	if !slices.Equal(d.Names(), []string{there, fresh}) {
		t.Errorf("8.8: the rename not done: files %q", d.Names())
	}
	writes := d.Writes()
	if e := manifest.Store(d, next(8)); e != api.OK || d.Writes() != writes+5 {
		t.Errorf("8.5: with a manifest.new there: %d, with %d writes", e, d.Writes()-writes)
	}
	wantLoad(t, "8.5: behind it", d, next(8), api.OK)
	if !slices.Equal(d.Names(), []string{there}) {
		t.Errorf("8.5: behind it: files %q", d.Names())
	}
	d.Crash(nil)
	wantLoad(t, "8.8: Store answered OK", d, next(8), api.OK)
}

// scene is how a disk is ahead of a Store.
type scene struct {
	name string
	make func(t *testing.T, capacity int) *disk.Disk
}

func scenes() []scene {
	file := func(d *disk.Disk, t *testing.T, name, durable, loose string) *disk.Disk {
		with(t, d, name, durable, loose)
		return d
	}
	return []scene{
		{"nothing", func(t *testing.T, capacity int) *disk.Disk { return disk.New(capacity) }},
		{"a manifest", stored},
		{"a manifest and a left one", func(t *testing.T, capacity int) *disk.Disk {
			return file(stored(t, capacity), t, fresh, "left", "over")
		}},
		{"a manifest and a whole left one", func(t *testing.T, capacity int) *disk.Disk {
			return file(stored(t, capacity), t, fresh, bytesFor(next(7)), "")
		}},
		{"a left one alone", func(t *testing.T, capacity int) *disk.Disk {
			return file(disk.New(capacity), t, fresh, "", bytesFor(next(7)))
		}},
		{"an empty left one", func(t *testing.T, capacity int) *disk.Disk { return file(stored(t, capacity), t, fresh, "", "") }},
		{"a spoilt manifest", func(t *testing.T, capacity int) *disk.Disk { return file(disk.New(capacity), t, there, "x", "yz") }},
		{"other files", func(t *testing.T, capacity int) *disk.Disk {
			return file(file(stored(t, capacity), t, "j3", "abc", "def"), t, "manifest.newer", "", "q")
		}},
	}
}

// wantStore: Store answers what the model does on a disk of the same making, and leaves the same disk.
func wantStore(t *testing.T, where string, d, twin *disk.Disk, m api.Manifest) api.Errno {
	t.Helper()
	want := storeModel(twin, m)
	if e := manifest.Store(d, m); e != want {
		t.Fatalf("8.5: %s: Store = %d, want %d", where, e, want)
	}
	if is, should := state(d), state(twin); is != should {
		t.Fatalf("8.5: %s: the disk is %.400s, want %.400s", where, is, should)
	}
	if d.Down() {
		d.Crash([]api.Cut{{Name: fresh, Keep: 99}, {Name: there, Keep: 99}})
		twin.Crash([]api.Cut{{Name: fresh, Keep: 99}, {Name: there, Keep: 99}})
		if is, should := state(d), state(twin); is != should {
			t.Fatalf("8.5: %s: the disk is behind a cut %.400s, want %.400s", where, is, should)
		}
	}
	return want
}

// TestStoreWriteByWrite: with the power going at each write, on disks with any room.
func TestStoreWriteByWrite(t *testing.T) {
	seen := map[api.Errno]int{}
	for _, s := range scenes() {
		for _, capacity := range []int{60, 61, 70, 75, 76, 77, 80, 100, 1000} {
			for cut := range 8 {
				for _, done := range []bool{false, true} {
					for _, m := range []api.Manifest{next(9), rows(2), {}, but(func(m *api.Manifest) { m.Seq = 4 })} {
						d, twin := s.make(t, capacity), s.make(t, capacity)
						d.Arm(cut, done)
						twin.Arm(cut, done)
						where := fmt.Sprintf("%s, room %d, cut at %d, done %v", s.name, capacity, cut, done)
						seen[wantStore(t, where, d, twin, m)]++
					}
				}
			}
		}
	}
	for _, e := range []api.Errno{api.OK, api.ErrDown, api.ErrFull, api.ErrWidth, api.ErrCorrupt} {
		if seen[e] < 50 {
			t.Errorf("8.5: %d came %d times: the test tries too few", e, seen[e])
		}
	}
}

func TestStoreWithThePowerOff(t *testing.T) {
	for _, m := range []api.Manifest{chapter(), next(9), {}, but(func(m *api.Manifest) { m.Mode = 3 })} {
		d := stored(t, 1000)
		d.Arm(1, true)
		d.Sync(there)
		was := state(d)
		if e := manifest.Store(d, m); e != api.ErrDown || state(d) != was {
			t.Errorf("8.5: with the power off: Store(%s) = %d", told(m), e)
		}
		d.Crash(nil)
		wantLoad(t, "8.8: behind it", d, chapter(), api.OK)
	}
}

// TestRefusedManifest: what Check refuses does nothing at all: not even what is left is deleted, and no write is counted.
func TestRefusedManifest(t *testing.T) {
	k := maker{sample.From(89)}
	list := []api.Manifest{{}, rows(25), but(func(m *api.Manifest) { m.Chunks = 9 })}
	for range 300 {
		if m := k.near(); checkModel(m) != api.OK {
			list = append(list, m)
		}
	}
	for _, m := range list {
		for _, s := range scenes() {
			d := s.make(t, 1000)
			d.Arm(1, true)
			was := state(d)
			if e := manifest.Store(d, m); e != checkModel(m) || state(d) != was {
				t.Fatalf("8.9: %s: Store(%s) = %d, want %d and nothing changed", s.name, told(m), e, checkModel(m))
			}
			if e := d.Create("z"); e != api.ErrDown {
				t.Fatalf("8.9: %s: a refused Store has used up what was armed: %d", s.name, e)
			}
		}
	}
}

// cuts are what may be left of unsynced bytes, up to n of them.
func cuts(n int) []api.Cut {
	var list []api.Cut
	for keep := -1; keep <= n+1; keep++ {
		for _, spoil := range []byte{0, 1, 0x80, 0xff} {
			list = append(list, api.Cut{Name: fresh, Keep: keep, Spoil: spoil})
		}
	}
	return list
}

// TestOldOrNew: the power goes at each write of a Store, and anything is left of what was not synced.
func TestOldOrNew(t *testing.T) {
	news := next(9)
	size := len(bytesFor(news))
	for _, s := range scenes() {
		for cut := 1; cut <= 6; cut++ {
			for _, done := range []bool{false, true} {
				for _, c := range cuts(size) {
					d := s.make(t, 1000)
					old, errno := manifest.Load(d)
					d.Sync(there) // what somebody else wrote there may be lost otherwise
					oldBytes := bytesOf(d, there)
					last := 4
					if slices.Contains(d.Names(), fresh) {
						last = 5
					}
					d.Arm(cut, done)
					e := manifest.Store(d, news)
					off := d.Down()
					d.Crash([]api.Cut{c})
					where := fmt.Sprintf("8.8: %s, cut at write %d, done %v, keep %d, spoil %x", s.name, cut, done, c.Keep, c.Spoil)
					if off != (cut <= last) || off && e != api.ErrDown || !off && e != api.OK {
						t.Fatalf("%s: Store = %d, the power off: %v", where, e, off)
					}
					if cut > last || cut == last && done {
						wantLoad(t, where, d, news, api.OK)
					} else {
						wantLoad(t, where, d, old, errno)
					}
					if b := bytesOf(d, there); b != bytesFor(news) && b != oldBytes {
						t.Fatalf("%s: the file holds %s", where, short(b))
					}
				}
			}
		}
	}
}

// TestCutAgainAndAgain: many Stores, most of them cut, one behind the other on one disk.
func TestCutAgainAndAgain(t *testing.T) {
	k := maker{sample.From(88)}
	for range 60 {
		d := disk.New(5000)
		var old api.Manifest
		errno := api.ErrNone
		for step := range 60 {
			news := k.good()
			d.Arm(k.Below(8), k.Below(2) == 0)
			e := manifest.Store(d, news)
			if e != api.OK && e != api.ErrDown {
				t.Fatalf("8.5: Store = %d", e)
			}
			if e == api.ErrDown || k.Below(4) == 0 {
				d.Crash([]api.Cut{{Name: fresh, Keep: k.Below(300), Spoil: byte(k.Next())}, {Name: there, Keep: k.Below(300), Spoil: byte(k.Next())}})
			}
			m, f := manifest.Load(d)
			isNew, isOld := same(m, news) && f == api.OK, same(m, old) && f == errno
			if !isNew && (!isOld || e == api.OK) {
				t.Fatalf("8.8: step %d: Store = %d, then Load = %s, %d, neither %s nor %s", step, e, told(m), f, told(old), told(news))
			}
			old, errno = m, f
		}
	}
}

// TestEveryRoom: from no room at all to more than enough; what does not go in leaves all as it was.
func TestEveryRoom(t *testing.T) {
	old, news := len(bytesFor(chapter())), len(bytesFor(rows(2)))
	for room := range old + 2*news {
		for _, left := range []string{"", "left over"} {
			if old+len(left) > room {
				continue
			}
			d := stored(t, 1000)
			if left != "" {
				with(t, d, fresh, left, "")
			}
			d, _ = disk.Open(d.Image(), room)
			e := manifest.Store(d, rows(2))
			where := fmt.Sprintf("8.9: room for %d, left %q", room, left)
			if !slices.Equal(d.Names(), []string{there}) {
				t.Errorf("%s: files %q", where, d.Names())
			}
			if old+news <= room { // what was left is no hindrance: it is deleted first
				wantLoad(t, where, d, rows(2), api.OK)
			} else {
				wantLoad(t, where, d, chapter(), api.OK)
			}
			if want := map[bool]api.Errno{true: api.OK, false: api.ErrFull}[old+news <= room]; e != want {
				t.Errorf("%s: Store = %d, want %d", where, e, want)
			}
		}
	}
	for room := range news + 9 {
		d := disk.New(room)
		e := manifest.Store(d, rows(2))
		if room < news && (e != api.ErrFull || len(d.Names()) != 0 || d.Used() != 0 || d.Writes() != 2) || room >= news && e != api.OK {
			t.Errorf("8.9: an empty disk for %d bytes: Store = %d, files %q, %d writes", room, e, d.Names(), d.Writes())
		}
	}
}

// TestFullAndThePowerGoes: the want of room is the answer, also where the power goes at the deletion that it brings.
func TestFullAndThePowerGoes(t *testing.T) {
	for _, done := range []bool{false, true} {
		d := stored(t, len(bytesFor(chapter()))+5)
		d.Arm(2, done)
		if e := manifest.Store(d, next(9)); e != api.ErrFull || !d.Down() {
			t.Errorf("8.5: Store = %d, the power off: %v, want ErrFull, off", e, d.Down())
		}
		d.Crash(nil)
		wantLoad(t, "8.9: behind it", d, chapter(), api.OK)
		if left := slices.Contains(d.Names(), fresh); left == done {
			t.Errorf("8.9: deleted %v, and files %q", done, d.Names())
		}
	}
}

// TestTooManyFiles: a disk that has as many files as it may.
func TestTooManyFiles(t *testing.T) {
	for _, left := range []bool{false, true} {
		for _, free := range []int{0, 1} {
			d := stored(t, 10000)
			if left {
				with(t, d, fresh, "left over", "")
			}
			for i := 0; len(d.Names()) < api.MaxFiles-free; i++ {
				for k := range min(256, api.MaxFiles-free-len(d.Names())) {
					d.Create("x" + strconv.Itoa(i) + "." + strconv.Itoa(k))
				}
			}
			want := api.OK
			if !left && free == 0 {
				want = api.ErrMany
			}
			was := state(d)
			if e := manifest.Store(d, next(9)); e != want {
				t.Errorf("8.9: with %d files free, one left %v: Store = %d, want %d", free, left, e, want)
			}
			if slices.Contains(d.Names(), fresh) || want != api.OK && state(d) != was {
				t.Errorf("8.9: with %d files free, one left %v: something has changed or is left", free, left)
			}
			if want == api.OK {
				wantLoad(t, "8.9: with many files", d, next(9), api.OK)
			} else {
				wantLoad(t, "8.9: with too many files", d, chapter(), api.OK)
			}
		}
	}
}

// TestUnmadeDisks: a disk that nobody made has no power.
func TestUnmadeDisks(t *testing.T) {
	for _, d := range []*disk.Disk{nil, {}} {
		m, e := manifest.Load(d)
		f := manifest.Store(d, chapter())
		if d == nil && (e != api.ErrDown || f != api.ErrDown) || e == api.OK || f == api.OK || !same(m, api.Manifest{}) {
			t.Errorf("R1: no disk: Load %d, Store %d", e, f)
		}
	}
}
