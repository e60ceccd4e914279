package disk_test

import (
	"fmt"
	"math"
	"slices"
	"strings"
	"testing"
	"unsafe"

	"kindred/api"
	"kindred/disk"
)

// edges are numbers with which sums and differences wrap.
var edges = []int{math.MinInt, math.MinInt + 1, -1 << 62, -1 << 32, -1 << 31, -1, 1 << 31, 1 << 32, 1<<32 + 1, 1 << 62, math.MaxInt - 1, math.MaxInt}

// made is a disk with files, all of their bytes durable.
func made(t *testing.T, capacity int, files ...string) *disk.Disk {
	t.Helper()
	d := disk.New(capacity)
	if d == nil {
		t.Fatalf("4.1: New(%d): no disk", capacity)
	}
	for i := 0; i < len(files); i += 2 {
		answers(t, "4.5 to 4.7", d.Create(files[i]), api.OK, d.Append(files[i], files[i+1]), api.OK, d.Sync(files[i]), api.OK)
	}
	return d
}

// answers holds each answer against the one that stands behind it.
func answers(t *testing.T, where string, list ...api.Errno) {
	t.Helper()
	for i := 0; i < len(list); i += 2 {
		if list[i] != list[i+1] {
			t.Errorf("%s: call %d: %d, want %d", where, i/2, list[i], list[i+1])
		}
	}
}

// holds: these files are there, with these bytes, and no others.
func holds(t *testing.T, where string, m machine, files ...string) {
	t.Helper()
	var names []string
	used := 0
	for i := 0; i < len(files); i += 2 {
		names = append(names, files[i])
		used += len(files[i+1])
		n, e := m.Size(files[i])
		s, f := m.Read(files[i], 0, n)
		if e != api.OK || f != api.OK || s != files[i+1] || n != len(s) {
			t.Errorf("%s: %s has %q, Size %d, %d, %d, want %q", where, files[i], s, n, e, f, files[i+1])
		}
	}
	if got := m.Names(); !slices.Equal(got, names) {
		t.Errorf("%s: Names %q, want %q", where, got, names)
	}
	if got := m.Used(); got != used {
		t.Errorf("%s: Used %d, want %d", where, got, used)
	}
}

// unchanged: f changes nothing that a disk tells.
func unchanged(t *testing.T, where string, m machine, f func()) {
	t.Helper()
	was := toldAll(m)
	f()
	if is := toldAll(m); is != was {
		t.Errorf("%s: something has changed:\n%s\n%s", where, was, is)
	}
}

func TestNew(t *testing.T) {
	for _, n := range append([]int{1<<30 + 1}, edges...) {
		if disk.New(n) != nil {
			t.Errorf("4.1: New(%d) is a disk", n)
		}
	}
	for _, n := range []int{0, 1, 10, 1<<30 - 1, 1 << 30} {
		d := made(t, n)
		if got, want := toldAll(d), toldAll(newModel(n)); got != want {
			t.Errorf("4.1: New(%d):\n%s\n%s", n, got, want)
		}
		answers(t, "4.1: nothing is armed", d.Create("a"), api.OK, d.Delete("a"), api.OK)
	}
}

func TestImage(t *testing.T) {
	d := made(t, 1<<20, "b", "xyz", "a.", "", "a", "\x00\xff", "0", strings.Repeat("o", 258), ".", "D", strings.Repeat("z", 32), strings.Repeat("p", 0x10203))
	d.Append("b", "more")
	d.Append("a.", "more")
	want := "D\x01.\x00\x00\x00\x01D" + "\x010\x00\x00\x01\x02" + strings.Repeat("o", 258) + "\x01a\x00\x00\x00\x02\x00\xff" + "\x02a.\x00\x00\x00\x00" + "\x01b\x00\x00\x00\x03xyz" + "\x20" + strings.Repeat("z", 32) + "\x00\x01\x02\x03" + strings.Repeat("p", 0x10203)
	if d.Image() != want {
		t.Errorf("4.2: the image is another")
	}
	d.Arm(1, true)
	if e := d.Append("b", "!"); e != api.ErrDown || d.Image() != want {
		t.Errorf("4.2, 4.12: the image is another while the power is off (%d)", e)
	}
	if got := made(t, 5).Image(); got != "D" {
		t.Errorf("4.2: the image without files: %q", got)
	}
}

func TestOpen(t *testing.T) {
	for _, image := range []string{"D", "D\x01a\x00\x00\x00\x00", "D\x01a\x00\x00\x00\x02xy", "D\x01.\x00\x00\x00\x03abc\x010\x00\x00\x00\x01\x00\x01a\x00\x00\x00\x00\x02a.\x00\x00\x00\x02\xff\x01", "D\x20" + strings.Repeat("z", 32) + "\x00\x00\x01\x01" + strings.Repeat("q", 257)} {
		d, e := disk.Open(image, 300)
		if e != api.OK || d == nil {
			t.Errorf("4.3: Open(%q) = %d", image, e)
			continue
		}
		if d.Image() != image || d.Age() != 0 || d.Writes() != 0 || d.Down() || d.Room() != 300 {
			t.Errorf("4.3, 4.16: Open(%q): image %q, age %d, writes %d, down %v, room %d", image, d.Image(), d.Age(), d.Writes(), d.Down(), d.Room())
		}
		was := told(d)
		d.Crash(nil)
		if told(d) != was {
			t.Errorf("4.3: %q: not all bytes are durable", image)
		}
		d, _ = disk.Open(image, 300)
		answers(t, "4.3: nothing is armed", d.Create("new"), api.OK)
	}
	d, _ := disk.Open("D\x01a\x00\x00\x00\x02xy\x01b\x00\x00\x00\x01z", 3)
	holds(t, "4.3", d, "a", "xy", "b", "z")
}

func TestOpenRefuses(t *testing.T) {
	two := "D\x01a\x00\x00\x00\x02xy\x01b\x00\x00\x00\x01z"
	for _, c := range []struct {
		image    string
		capacity int
		want     api.Errno
	}{
		{"D", -1, api.ErrRange}, {"E", -1, api.ErrRange}, {"", 1<<30 + 1, api.ErrRange}, {"D", math.MinInt, api.ErrRange}, {"D", math.MaxInt, api.ErrRange}, {two, -1, api.ErrRange},
		{"", 0, api.ErrImage}, {"E", 9, api.ErrImage}, {"d", 9, api.ErrImage}, {"\x01a\x00\x00\x00\x00", 9, api.ErrImage}, {two + "\x00", 9, api.ErrImage}, {two + "x", 0, api.ErrImage}, {two[1:], 9, api.ErrImage},
		{"D\x00\x00\x00\x00\x00", 9, api.ErrImage}, {"D\x01A\x00\x00\x00\x00", 9, api.ErrImage}, {"D\x02a_\x00\x00\x00\x00", 9, api.ErrImage},
		{"D\x20" + strings.Repeat("x", 32) + "\x00\x00\x00\x00", 0, api.OK}, {"D\x21" + strings.Repeat("x", 33) + "\x00\x00\x00\x00", 0, api.ErrImage}, {"D\xff" + strings.Repeat("x", 255) + "\x00\x00\x00\x00", 0, api.ErrImage},
		{"D\x01b\x00\x00\x00\x00\x01a\x00\x00\x00\x00", 9, api.ErrImage}, {"D\x01a\x00\x00\x00\x00\x01a\x00\x00\x00\x00", 9, api.ErrImage}, {"D\x02a.\x00\x00\x00\x00\x01a\x00\x00\x00\x00", 9, api.ErrImage}, {"D\x01b\x00\x00\x00\x00\x02aa\x00\x00\x00\x00", 9, api.ErrImage}, {"D\x01a\x00\x00\x00\x00\x02aa\x00\x00\x00\x00", 9, api.OK},
		{"D\x01a\x10\x00\x00\x01", 9, api.ErrImage}, {"D\x01a\xff\xff\xff\xff", 9, api.ErrImage}, {"D\x01a\xff\xff\xff\xffxyz", 0, api.ErrImage}, {"D\x01a\x00\x00\x00\x03xy", 1, api.ErrImage},
		{two, 2, api.ErrFull}, {two, 0, api.ErrFull}, {two, 3, api.OK}, {two + "\x01c\x00\x00\x00\x00", 3, api.OK}, {two + "\x01b\x00\x00\x00\x00", 2, api.ErrImage},
	} {
		d, e := disk.Open(c.image, c.capacity)
		if e != c.want || (d != nil) != (e == api.OK) {
			t.Errorf("4.3: Open(%q, %d) = %v, %d, want %d", c.image, c.capacity, d != nil, e, c.want)
		}
	}
}

// isImage is 4.2's last sentence: the text is what the model with the same files tells.
func isImage(b string) bool {
	m := newModel(1 << 30)
	for rest := strings.TrimPrefix(b, "D"); len(rest) > 0; {
		n := int(rest[0])
		if len(rest) < 1+n+4 || !good(rest[1:1+n]) {
			return false
		}
		name, rise := rest[1:1+n], rest[1+n:]
		size := int(rise[0])<<24 | int(rise[1])<<16 | int(rise[2])<<8 | int(rise[3])
		if size > 1<<28 || size > len(rise)-4 {
			return false
		}
		m.files[name] = content{rise[4:][:size], ""}
		rest = rise[4+size:]
	}
	return m.Image() == b
}

func TestOpenOfAnyBytes(t *testing.T) {
	image := "D\x01a\x00\x00\x00\x02xy\x02a.\x00\x00\x00\x00\x03b.0\x00\x00\x00\x09\x01c\x00\x00\x00\x01ab"
	var taken int
	try := func(b string) {
		d, e := disk.Open(b, 1000)
		want := api.OK
		if !isImage(b) {
			want = api.ErrImage
		}
		if e != want || (d != nil) != (e == api.OK) {
			t.Fatalf("4.3: Open(%q) = %v, %d, want %d", b, d != nil, e, want)
		}
		if d != nil && d.Image() != b {
			t.Fatalf("4.16: Open(%q) has the image %q", b, d.Image())
		}
		if d != nil {
			taken++
		}
	}
	g := newScript(4)
	for i := range len(image) + 1 {
		try(image[:i])
		try(image[i:])
		for c := range 256 {
			try(image[:i] + string([]byte{byte(c)}) + image[i:])
			if i < len(image) {
				try(image[:i] + string([]byte{byte(c)}) + image[i+1:])
			}
		}
		for j := range i {
			try(image[:j] + image[i:])
			try(image[:i] + image[j:])
		}
	}
	for range 5000 {
		try("D" + g.Text(g.Below(12)))
	}
	if taken < 300 {
		t.Errorf("4.3: of many texts %d alone were images", taken)
	}
}

func TestManyFiles(t *testing.T) {
	d := made(t, 10)
	m := newModel(10)
	for i := range 4096 {
		name := fmt.Sprintf("f%d", i)
		if e := d.Create(name); e != api.OK {
			t.Fatalf("4.5: file %d: %d", i, e)
		}
		m.files[name] = content{}
	}
	unchanged(t, "4.5", d, func() {
		answers(t, "4.5: a file too many", d.Create("y"), api.ErrMany, d.Create("f5"), api.ErrExists, d.Create("Y"), api.ErrName)
	})
	if !slices.Equal(d.Names(), m.Names()) || d.Image() != m.Image() {
		t.Errorf("4.2, 4.4: names or image of 4096 files")
	}
	if c, e := disk.Open(d.Image(), 0); c == nil || e != api.OK {
		t.Errorf("4.3: 4096 files: %d", e)
	}
	if c, e := disk.Open(d.Image()+"\x01g\x00\x00\x00\x00", 0); c != nil || e != api.ErrImage {
		t.Errorf("4.3: 4097 files: %d", e)
	}
	answers(t, "4.9: with no place left", d.Rename("f1", "y"), api.OK, d.Create("f1"), api.ErrMany, d.Rename("f2", "y"), api.OK, d.Create("f1"), api.OK, d.Create("f2"), api.ErrMany, d.Delete("f1"), api.OK, d.Create("f2"), api.OK)
}

func TestGreatFile(t *testing.T) {
	const most = 1 << 28
	const head, above = "D\x01a\x10\x00\x00\x00", "D\x01a\x10\x00\x00\x01"
	tooGreat := strings.Join([]string{above, strings.Repeat("0123456789abcdef", most/16), "!"}, "")
	data := tooGreat[len(above) : len(above)+most]
	if c, e := disk.Open(tooGreat, 1<<30); c != nil || e != api.ErrImage {
		t.Errorf("4.3: a file that is too great: %d", e)
	}
	d := made(t, most, "a", "x", "b", "")
	unchanged(t, "4.6", d, func() {
		answers(t, "4.6: ErrBig ahead of ErrFull", d.Append("a", data), api.ErrBig, d.Append("A", data), api.ErrName, d.Append("c", data), api.ErrNone, d.Append("b", data), api.ErrFull)
	})
	answers(t, "4.6: the greatest file", d.Append("a", data[1:]), api.OK, d.Append("a", "y"), api.ErrBig, d.Append("a", ""), api.OK, d.Append("b", "y"), api.ErrFull, d.Append("b", ""), api.OK, d.Sync("a"), api.OK)
	n, e := d.Size("a")
	s, f := d.Read("a", most-2, 2)
	if n != most || e != api.OK || s != "ef" || f != api.OK || d.Used() != most {
		t.Errorf("4.4: the greatest file: Size %d, %d, Read %q, %d, Used %d", n, e, s, f, d.Used())
	}
	image := d.Image()
	if len(image) != len(head)+most+6 || !strings.HasPrefix(image, head) {
		t.Fatalf("4.2: the greatest file's image begins with %q", image[:min(len(head), len(image))])
	}
	if c, e := disk.Open(image, most-1); c != nil || e != api.ErrFull {
		t.Errorf("4.3: the greatest file: %d", e)
	}
	if c, e := disk.Open(image, most); e != api.OK || c.Used() != most {
		t.Errorf("4.3: the greatest file: %d", e)
	}
}

func TestReading(t *testing.T) {
	d := made(t, 20, "b", "12", "a", "345", "a.", "")
	d.Append("b", "678")
	holds(t, "4.4: unsynced bytes too", d, "a", "345", "a.", "", "b", "12678")
	unchanged(t, "4.4", d, func() {
		for at := -3; at < 9; at++ {
			for n := -3; n < 9; n++ {
				s, e := d.Read("b", at, n)
				if at < 0 || n < 0 || at+n > 5 {
					if s != "" || e != api.ErrRange {
						t.Errorf("4.4: Read(%d, %d) = %q, %d", at, n, s, e)
					}
				} else if s != "12678"[at:at+n] || e != api.OK {
					t.Errorf("4.4: Read(%d, %d) = %q, %d", at, n, s, e)
				}
			}
		}
		for _, x := range edges {
			for _, y := range append([]int{0, 1, 5}, edges...) {
				for _, name := range []string{"b", "a."} {
					if s, e := d.Read(name, x, y); s != "" || e != api.ErrRange {
						t.Errorf("4.4: Read(%s, %d, %d) = %q, %d", name, x, y, s, e)
					}
					if s, e := d.Read(name, y, x); s != "" || e != api.ErrRange {
						t.Errorf("4.4: Read(%s, %d, %d) = %q, %d", name, y, x, s, e)
					}
				}
			}
		}
	})
}

// TestNames goes through all texts that can or cannot be names, in every call that takes one.
func TestNames(t *testing.T) {
	d := made(t, 20, "a", "1")
	names := []string{"", ".", "..", "0", "9", "z", "a.b", "manifest.new", strings.Repeat("q", 31), strings.Repeat("q", 32), strings.Repeat("q", 33), strings.Repeat(".", 1000), "a\x00", "ä", "aB", "-", "a b", "/a"}
	for c := range 256 {
		names = append(names, string([]byte{byte(c)}), "x"+string([]byte{byte(c)}), string([]byte{byte(c)})+"x")
	}
	for _, name := range names {
		if name == "a" {
			continue
		}
		_, size := d.Size(name)
		_, read := d.Read(name, -1, -1)
		if good(name) {
			answers(t, fmt.Sprintf("4.4 to 4.10: %q", name), size, api.ErrNone, read, api.ErrNone, d.Append(name, "far too much for this disk"), api.ErrNone, d.Sync(name), api.ErrNone, d.Cut(name, -1), api.ErrNone, d.Delete(name), api.ErrNone, d.Rename(name, "b"), api.ErrNone, d.Rename(name, name), api.ErrNone, d.Create(name), api.OK, d.Create(name), api.ErrExists, d.Rename("a", name), api.OK, d.Rename(name, "a"), api.OK)
			continue
		}
		unchanged(t, fmt.Sprintf("4.4 to 4.10: %q", name), d, func() {
			answers(t, fmt.Sprintf("4.4 to 4.10: %q", name), size, api.ErrName, read, api.ErrName, d.Append(name, "far too much for this disk"), api.ErrName, d.Sync(name), api.ErrName, d.Cut(name, -1), api.ErrName, d.Delete(name), api.ErrName, d.Rename(name, "b"), api.ErrName, d.Rename(name, name), api.ErrName, d.Rename("a", name), api.ErrName, d.Rename("none", name), api.ErrName, d.Create(name), api.ErrName)
		})
	}
	holds(t, "4.5, 4.9", d, "a", "1")
}

func TestAppend(t *testing.T) {
	d := made(t, 6, "a", "12", "b", "")
	answers(t, "4.6", d.Append("a", ""), api.OK, d.Append("a", "3"), api.OK, d.Append("b", "\x00\xff"), api.OK)
	holds(t, "4.6", d, "a", "123", "b", "\x00\xff")
	unchanged(t, "4.6", d, func() {
		answers(t, "4.6: no room", d.Append("a", "45"), api.ErrFull, d.Append("b", "45"), api.ErrFull)
	})
	answers(t, "4.6: the last byte", d.Append("b", "4"), api.OK, d.Append("b", "5"), api.ErrFull, d.Append("a", ""), api.OK, d.Append("b", ""), api.OK)
	holds(t, "4.6", d, "a", "123", "b", "\x00\xff4")
	d.Crash(nil)
	holds(t, "4.6: what is appended is unsynced", d, "a", "12", "b", "")
	answers(t, "4.6: there is room again", d.Append("b", "4567"), api.OK)
}

func TestSync(t *testing.T) {
	d := made(t, 20, "a", "1", "b", "2")
	d.Append("a", "3")
	d.Append("b", "4")
	answers(t, "4.7", d.Sync("a"), api.OK, d.Sync("a"), api.OK)
	if got := d.Image(); got != "D\x01a\x00\x00\x00\x0213\x01b\x00\x00\x00\x012" {
		t.Errorf("4.7: the image is %q", got)
	}
	d.Crash(nil)
	holds(t, "4.7: this file alone", d, "a", "13", "b", "2")
}

func TestCut(t *testing.T) {
	for _, durable := range []int{0, 1, 3} {
		for _, unsynced := range []int{0, 1, 2} {
			size := durable + unsynced
			for _, n := range append([]int{-2, 0, 1, 2, 3, 4, 5, 6, 7}, edges...) {
				d := made(t, 20, "a", "abc"[:durable], "b", "other")
				d.Append("a", "de"[:unsynced])
				all := "abc"[:durable] + "de"[:unsynced]
				where := fmt.Sprintf("4.8: Cut(%d) of %q and %q", n, "abc"[:durable], "de"[:unsynced])
				if n < 0 || n > size {
					unchanged(t, where, d, func() { answers(t, where, d.Cut("a", n), api.ErrRange) })
					continue
				}
				answers(t, where, d.Cut("a", n), api.OK)
				holds(t, where, d, "a", all[:n], "b", "other")
				d.Append("a", "!")
				holds(t, where, d, "a", all[:n]+"!", "b", "other")
				d.Crash(nil)
				holds(t, where+", crashed", d, "a", all[:min(n, durable)], "b", "other")
			}
		}
	}
}

func TestRename(t *testing.T) {
	d := made(t, 20, "a", "12", "b", "345")
	d.Append("a", "67")
	d.Append("b", "8")
	answers(t, "4.9: the same name", d.Rename("a", "a"), api.OK)
	holds(t, "4.9: the same name", d, "a", "1267", "b", "3458")
	if w := d.Writes(); w != 9 {
		t.Errorf("4.9, 4.14: the same name: Writes %d", w)
	}
	answers(t, "4.9: a new name", d.Rename("a", "c"), api.OK, d.Rename("a", "c"), api.ErrNone)
	holds(t, "4.9: a new name", d, "b", "3458", "c", "1267")
	answers(t, "4.9: a name that was there", d.Rename("c", "b"), api.OK)
	holds(t, "4.9: a name that was there", d, "b", "1267")
	answers(t, "4.9: the bytes of what is gone are free", d.Create("d"), api.OK, d.Append("d", strings.Repeat("x", 17)), api.ErrFull, d.Append("d", strings.Repeat("x", 16)), api.OK)
	d.Crash(nil)
	holds(t, "4.9: what was durable is", d, "b", "12", "d", "")
	unchanged(t, "4.9", d, func() {
		answers(t, "4.9", d.Rename("x", "y"), api.ErrNone, d.Rename("x", "b"), api.ErrNone, d.Rename("x", "x"), api.ErrNone)
	})
}

func TestDelete(t *testing.T) {
	d := made(t, 6, "a", "12", "b", "3")
	d.Append("a", "45")
	answers(t, "4.10", d.Append("b", "67"), api.ErrFull, d.Delete("a"), api.OK, d.Delete("a"), api.ErrNone, d.Append("b", "678"), api.OK)
	holds(t, "4.10", d, "b", "3678")
	answers(t, "4.10: an empty one comes behind it", d.Create("a"), api.OK)
	holds(t, "4.10", d, "a", "", "b", "3678")
}

// writes are calls that are accepted on the disk that before makes.
var writes = []struct {
	name     string
	do       func(m machine) api.Errno
	done     []string // what is there if it is done
	crashed  []string // what is there behind a Crash then
	atTheEnd bool     // it is done whatever Arm says
	never    bool     // it is not done whatever Arm says
	image    string   // the image if it is done
}{
	{"Create", func(m machine) api.Errno { return m.Create("c") }, []string{"a", "1234", "b", "567", "c", ""}, []string{"a", "12", "b", "56", "c", ""}, false, false, "D\x01a\x00\x00\x00\x0212\x01b\x00\x00\x00\x0256\x01c\x00\x00\x00\x00"},
	{"Append", func(m machine) api.Errno { return m.Append("b", "89") }, []string{"a", "1234", "b", "56789"}, []string{"a", "12", "b", "56"}, true, false, "D\x01a\x00\x00\x00\x0212\x01b\x00\x00\x00\x0256"},
	{"Append of nothing", func(m machine) api.Errno { return m.Append("b", "") }, []string{"a", "1234", "b", "567"}, []string{"a", "12", "b", "56"}, true, false, "D\x01a\x00\x00\x00\x0212\x01b\x00\x00\x00\x0256"},
	{"Sync", func(m machine) api.Errno { return m.Sync("a") }, []string{"a", "1234", "b", "567"}, []string{"a", "1234", "b", "56"}, false, true, "D\x01a\x00\x00\x00\x041234\x01b\x00\x00\x00\x0256"},
	{"Cut of unsynced bytes", func(m machine) api.Errno { return m.Cut("a", 3) }, []string{"a", "123", "b", "567"}, []string{"a", "12", "b", "56"}, false, false, "D\x01a\x00\x00\x00\x0212\x01b\x00\x00\x00\x0256"},
	{"Cut of durable bytes", func(m machine) api.Errno { return m.Cut("a", 1) }, []string{"a", "1", "b", "567"}, []string{"a", "1", "b", "56"}, false, false, "D\x01a\x00\x00\x00\x011\x01b\x00\x00\x00\x0256"},
	{"Rename", func(m machine) api.Errno { return m.Rename("b", "a") }, []string{"a", "567"}, []string{"a", "56"}, false, false, "D\x01a\x00\x00\x00\x0256"},
	{"Rename to itself", func(m machine) api.Errno { return m.Rename("b", "b") }, []string{"a", "1234", "b", "567"}, []string{"a", "12", "b", "56"}, false, false, "D\x01a\x00\x00\x00\x0212\x01b\x00\x00\x00\x0256"},
	{"Delete", func(m machine) api.Errno { return m.Delete("a") }, []string{"b", "567"}, []string{"b", "56"}, false, false, "D\x01b\x00\x00\x00\x0256"},
}

// before is a disk with the files a (12 durable, 34 not) and b (56 durable, 7 not).
func before(t *testing.T) *disk.Disk {
	t.Helper()
	d := made(t, 20, "a", "12", "b", "56")
	answers(t, "4.6", d.Append("a", "34"), api.OK, d.Append("b", "7"), api.OK)
	return d
}

func TestEachWrite(t *testing.T) {
	for _, w := range writes {
		d := before(t)
		n := d.Writes()
		answers(t, "4.5 to 4.10: "+w.name, w.do(d), api.OK)
		holds(t, "4.5 to 4.10: "+w.name, d, w.done...)
		if d.Writes() != n+1 || d.Image() != w.image {
			t.Errorf("4.2, 4.14: %s: %d writes, image %q", w.name, d.Writes()-n, d.Image())
		}
		d.Crash(nil)
		holds(t, "4.13: "+w.name+", Crash", d, w.crashed...)
	}
}

func TestArm(t *testing.T) {
	for _, w := range writes {
		for _, done := range []bool{false, true} {
			for n := 1; n < 4; n++ {
				d := before(t)
				d.Arm(n, done)
				for range n - 1 {
					answers(t, "4.11: ahead of it", d.Create("a"), api.ErrExists, d.Sync("none"), api.ErrNone, d.Rename("a", "a"), api.OK)
				}
				count := d.Writes()
				where := fmt.Sprintf("4.11: Arm(%d, %v), %s", n, done, w.name)
				used := d.Used()
				image := d.Image()
				answers(t, where, w.do(d), api.ErrDown)
				if !d.Down() || d.Writes() != count+1 || len(d.Names()) != 0 {
					t.Errorf("%s: Down %v, %d writes, Names %q", where, d.Down(), d.Writes()-count, d.Names())
				}
				files, left := []string{"a", "12", "b", "56"}, used
				if w.atTheEnd || done && !w.never {
					files, image, left = w.crashed, w.image, 0
					for i := 1; i < len(w.done); i += 2 {
						left += len(w.done[i])
					}
				}
				if d.Used() != left || d.Image() != image {
					t.Errorf("%s: Used %d, want %d, image %q, want %q", where, d.Used(), left, d.Image(), image)
				}
				d.Crash(nil)
				holds(t, where+", Crash", d, files...)
				answers(t, where+": nothing is armed", d.Create("n"), api.OK, d.Create("m"), api.OK, d.Create("o"), api.OK)
			}
		}
	}
}

func TestArmAnew(t *testing.T) {
	d := made(t, 9, "a", "")
	for _, n := range []int{0, -1, math.MinInt} {
		d.Arm(1, true)
		d.Arm(n, true)
		answers(t, "4.11: forgotten", d.Sync("a"), api.OK, d.Sync("a"), api.OK)
	}
	d.Arm(1, true)
	d.Arm(2, false)
	answers(t, "4.11: the last Arm counts", d.Sync("a"), api.OK, d.Delete("a"), api.ErrDown)
	d.Crash(nil)
	holds(t, "4.11: not done", d, "a", "")
	d.Arm(2, false)
	answers(t, "4.11", d.Sync("a"), api.OK)
	d.Arm(2, true)
	answers(t, "4.11: from now on", d.Sync("a"), api.OK)
	d.Arm(1, true)
	answers(t, "4.11", d.Delete("a"), api.ErrDown)
	d.Arm(1, true)
	d.Arm(1, false)
	d.Crash(nil)
	holds(t, "4.11: done, and an Arm while the power was off is nothing", d)
	answers(t, "4.11", d.Create("a"), api.OK, d.Create("b"), api.OK)
	for _, n := range []int{math.MaxInt, math.MaxInt - 1, 1 << 32, 1 << 31} {
		d.Arm(n, true)
		answers(t, "4.11: far off", d.Sync("a"), api.OK, d.Sync("a"), api.OK, d.Sync("a"), api.OK)
	}
	d.Arm(1, true)
	d.Crash(nil)
	answers(t, "4.13: nothing is armed", d.Sync("a"), api.OK)
}

func TestWithoutPower(t *testing.T) {
	d := made(t, 20, "a", "12")
	d.Crash(nil)
	d.Arm(1, true)
	answers(t, "4.11", d.Append("a", "45"), api.ErrDown)
	unchanged(t, "4.12", d, func() {
		for _, name := range append([]string{"none"}, pool...) {
			n, e := d.Size(name)
			s, f := d.Read(name, 0, 1)
			g, h := d.Read(name, -1, math.MaxInt)
			if n != 0 || s != "" || g != "" {
				t.Errorf("4.12: Size %d, Read %q, %q", n, s, g)
			}
			answers(t, "4.12", e, api.ErrDown, f, api.ErrDown, h, api.ErrDown, d.Create(name), api.ErrDown, d.Append(name, ""), api.ErrDown, d.Append(name, strings.Repeat("x", 30)), api.ErrDown, d.Sync(name), api.ErrDown, d.Cut(name, 0), api.ErrDown, d.Cut(name, -1), api.ErrDown, d.Rename(name, "b"), api.ErrDown, d.Rename("a", name), api.ErrDown, d.Delete(name), api.ErrDown)
		}
		d.Arm(1, true)
	})
	if d.Used() != 4 || d.Room() != 20 || d.Age() != 1 || d.Writes() != 4 || !d.Down() || d.Image() != "D\x01a\x00\x00\x00\x0212" || len(d.Names()) != 0 {
		t.Errorf("4.12: Used %d, Room %d, Age %d, Writes %d, Down %v, image %q, Names %q", d.Used(), d.Room(), d.Age(), d.Writes(), d.Down(), d.Image(), d.Names())
	}
}

func TestCrash(t *testing.T) {
	for durable := range 3 {
		for unsynced := range 4 {
			for _, keep := range append([]int{-3, -1, 0, 1, 2, 3, 4, 5}, edges...) {
				for _, spoil := range []byte{0, 1, 0x80, 0xff} {
					for _, off := range []bool{false, true} {
						d := made(t, 20, "a", "ab"[:durable], "b", "!")
						answers(t, "4.6", d.Append("a", "cde"[:unsynced]), api.OK, d.Append("b", "?"), api.OK)
						if off {
							d.Arm(1, false)
							answers(t, "4.11", d.Delete("a"), api.ErrDown)
						}
						want := []byte("ab"[:durable] + "cde"[:max(0, min(keep, unsynced))])
						if len(want) > durable {
							want[len(want)-1] ^= spoil
						}
						d.Crash([]api.Cut{{Name: "none", Keep: 2, Spoil: 7}, {Name: "a", Keep: keep, Spoil: spoil}, {Name: "", Keep: 1}, {Name: "a", Keep: 1, Spoil: 2}, {Name: "a", Keep: 3}})
						where := fmt.Sprintf("4.13: %d, %d, Keep %d, Spoil %x, off %v", durable, unsynced, keep, spoil, off)
						holds(t, where, d, "a", string(want), "b", "!")
						if d.Down() || d.Age() != 1 {
							t.Errorf("%s: Down %v, Age %d", where, d.Down(), d.Age())
						}
						d.Crash([]api.Cut{{Name: "a", Keep: 9, Spoil: 255}, {Name: "b", Keep: 9, Spoil: 255}})
						holds(t, where+": it is durable now", d, "a", string(want), "b", "!")
					}
				}
			}
		}
	}
}

func TestQuestions(t *testing.T) {
	d := made(t, 20, "a", "12")
	for i := range 4 {
		if d.Age() != i || d.Writes() != 3+2*i || d.Room() != 20 || d.Down() {
			t.Errorf("4.14: Age %d, Writes %d, Room %d, Down %v, want %d, %d, 20, false", d.Age(), d.Writes(), d.Room(), d.Down(), i, 3+2*i)
		}
		d.Append("a", "3")
		d.Append("none", "3")
		d.Cut("a", 20)
		d.Create("a")
		d.Arm(1, true)
		d.Sync("a")
		d.Sync("a")
		unchanged(t, "4.14", d, func() { d.Image() })
		d.Crash(nil)
	}
}

// TestAgainstTheModel makes many calls on a disk and on the model, and holds all that they tell against each other; and of the disk what 4.15 to 4.17 say.
func TestAgainstTheModel(t *testing.T) {
	for seed := range 150 {
		g := newScript(seed)
		capacity := g.Below(60)
		d, m := made(t, capacity), newModel(capacity)
		for step := range 400 {
			c := g.call(d.Down())
			got, want := c.on(d), c.on(m)
			if got != want {
				t.Fatalf("seed %d, step %d: %+v: %s, want %s", seed, step, c, got, want)
			}
			if got, want := toldAll(d), toldAll(m); got != want {
				t.Fatalf("seed %d, step %d: behind %+v:\n%s\nwant\n%s", seed, step, c, got, want)
			}
			if d.Used() > capacity {
				t.Fatalf("4.17: seed %d, step %d: Used %d of %d", seed, step, d.Used(), capacity)
			}
		}
	}
}

// follower keeps what 4.15 speaks of: by names, what a file had at its last Sync, and what it has.
type follower struct{ synced, has map[string]string }

func (f *follower) sees(c call) {
	switch c.what {
	case "Create":
		f.synced[c.name], f.has[c.name] = "", ""
	case "Append":
		f.has[c.name] += c.data
	case "Sync":
		f.synced[c.name] = f.has[c.name]
	case "Cut":
		f.has[c.name] = f.has[c.name][:c.n]
		f.synced[c.name] = f.synced[c.name][:min(c.n, len(f.synced[c.name]))]
	case "Rename":
		s, h := f.synced[c.name], f.has[c.name]
		delete(f.synced, c.name)
		delete(f.has, c.name)
		f.synced[c.to], f.has[c.to] = s, h
	case "Delete":
		delete(f.synced, c.name)
		delete(f.has, c.name)
	}
}

func TestWhatWasSyncedIsThere(t *testing.T) {
	crashes := 0
	for seed := range 300 {
		g := newScript(1000 + seed)
		d := made(t, 100)
		f := &follower{map[string]string{}, map[string]string{}}
		for step := range 150 {
			c := g.call(false)
			if c.what == "Arm" {
				continue
			}
			if c.what != "Crash" {
				if c.on(d) == "0" {
					f.sees(c)
				}
				continue
			}
			crashes++
			c.on(d)
			if len(d.Names()) != len(f.has) {
				t.Fatalf("4.15: seed %d, step %d: Names %q", seed, step, d.Names())
			}
			for name, was := range f.has {
				n, _ := d.Size(name)
				s, e := d.Read(name, 0, n)
				if e != api.OK || !strings.HasPrefix(s, f.synced[name]) {
					t.Fatalf("4.15: seed %d, step %d: %s has %x, %d, and was synced with %x", seed, step, name, s, e, f.synced[name])
				}
				if n > len(was) || n > 0 && s[:n-1] != was[:n-1] {
					t.Fatalf("4.15: seed %d, step %d: %s has %x, and had %x", seed, step, name, s, was)
				}
				f.synced[name], f.has[name] = s, s
			}
		}
	}
	if crashes < 100 {
		t.Errorf("4.15: there were %d crashes", crashes)
	}
}

func TestAnImageIsTheDisk(t *testing.T) {
	for seed := range 200 {
		g := newScript(2000 + seed)
		capacity := g.Below(60)
		d := made(t, capacity)
		for range g.Below(100) {
			g.call(d.Down()).on(d)
		}
		image := d.Image()
		other, e := disk.Open(image, capacity)
		if e != api.OK || other.Image() != image {
			t.Fatalf("4.16: seed %d: Open(%x) = %d", seed, image, e)
		}
		if d.Image() != image {
			t.Fatalf("4.16: seed %d: Image has changed the disk", seed)
		}
		d.Crash(nil)
		for step := range 100 {
			if told(d) != told(other) {
				t.Fatalf("4.16: seed %d, step %d:\n%s\n%s", seed, step, told(d), told(other))
			}
			c := g.call(d.Down())
			if a, b := c.on(d), c.on(other); a != b {
				t.Fatalf("4.16: seed %d, step %d: %+v: %s and %s", seed, step, c, a, b)
			}
		}
	}
}

func TestCrashOfNothing(t *testing.T) {
	for seed := range 200 {
		g := newScript(3000 + seed)
		d := made(t, 60)
		for range 60 {
			g.call(d.Down()).on(d)
		}
		d.Crash(nil)
		was, age, writes := told(d), d.Age(), d.Writes()
		d.Crash(g.cuts())
		if told(d) != was || d.Age() != age+1 || d.Writes() != writes {
			t.Fatalf("4.17: seed %d: age %d to %d, writes %d to %d\n%s\n%s", seed, age, d.Age(), writes, d.Writes(), was, told(d))
		}
		d.Arm(1, false)
		answers(t, "4.11", d.Create("q"), api.ErrDown)
		d.Crash(g.cuts())
		if told(d) != was || d.Age() != age+2 {
			t.Fatalf("4.17: seed %d: with the power off", seed)
		}
	}
}

func TestExamples(t *testing.T) {
	a, e := disk.Open("E", 9)
	b, f := disk.Open("D", -1)
	c, g := disk.Open("D", 0)
	if disk.New(-1) != nil || disk.New(1<<30+1) != nil || a != nil || b != nil || c == nil {
		t.Errorf("example 1: %v %v %v", a, b, c)
	}
	answers(t, "example 1", e, api.ErrImage, f, api.ErrRange, g, api.OK)
	d := made(t, 10)
	answers(t, "example 2", d.Create("a"), api.OK, d.Create("a"), api.ErrExists, d.Create("A"), api.ErrName, d.Create(""), api.ErrName, d.Append("a", "12345"), api.OK, d.Append("b", ""), api.ErrNone, d.Append("a", "123456"), api.ErrFull)
	n, e := d.Size("a")
	s, f := d.Read("a", 1, 3)
	none, g := d.Read("a", 5, 0)
	_, h := d.Read("a", 5, 1)
	_, i := d.Read("a", math.MaxInt, 2)
	answers(t, "example 3", e, api.OK, f, api.OK, g, api.OK, h, api.ErrRange, i, api.ErrRange)
	if n != 5 || s != "234" || none != "" || d.Image() != "D\x01a\x00\x00\x00\x00" {
		t.Errorf("example 3: %d, %q, %q, %q", n, s, none, d.Image())
	}
	answers(t, "example 4", d.Sync("a"), api.OK, d.Append("a", "678"), api.OK)
	d.Crash([]api.Cut{{Name: "a", Keep: 2, Spoil: 1}})
	holds(t, "example 4", d, "a", "1234566")
	answers(t, "example 5", d.Append("a", "xy"), api.OK)
	d.Crash(nil)
	holds(t, "example 5", d, "a", "1234566")
	if d.Age() != 2 {
		t.Errorf("example 5: Age %d", d.Age())
	}
	answers(t, "example 6", d.Cut("a", 8), api.ErrRange, d.Cut("a", 2), api.OK, d.Append("a", "z"), api.OK)
	d.Crash(nil)
	holds(t, "example 6", d, "a", "12")
	answers(t, "example 7", d.Create("b"), api.OK, d.Append("b", "q"), api.OK, d.Rename("b", "a"), api.OK)
	holds(t, "example 7", d, "a", "q")
	d.Crash(nil)
	holds(t, "example 7", d, "a", "")
	for _, done := range []bool{true, false} {
		d.Arm(2, done)
		answers(t, "examples 8 and 9", d.Create("c"), api.OK, d.Create("A"), api.ErrName, d.Delete("c"), api.ErrDown)
		if !d.Down() || len(d.Names()) != 0 {
			t.Errorf("examples 8 and 9: Down %v, Names %q", d.Down(), d.Names())
		}
		d.Crash(nil)
		if done {
			holds(t, "example 8", d, "a", "")
		} else {
			holds(t, "example 9", d, "a", "", "c", "")
		}
	}
	writes := d.Writes()
	d.Arm(1, true)
	answers(t, "example 10", d.Sync("a"), api.ErrDown, d.Sync("a"), api.ErrDown)
	d.Crash(nil)
	if d.Writes() != writes+1 {
		t.Errorf("example 10: %d writes", d.Writes()-writes)
	}
}

// loose is a text whose bytes change when turn is called, as no text should, so that whoever has kept it is seen.
func loose(s string) (text string, turn func()) {
	b := []byte(s)
	return unsafe.String(unsafe.SliceData(b), len(b)), func() {
		for i := range b {
			b[i] = '!'
		}
	}
}

func TestNothingHandedInIsKept(t *testing.T) {
	d := made(t, 20)
	name, turnName := loose("a")
	data, turnData := loose("123")
	answers(t, "R4", d.Create(name), api.OK, d.Append(name, data), api.OK)
	turnName()
	turnData()
	holds(t, "R4: Create, Append", d, "a", "123")
	to, turnTo := loose("b")
	answers(t, "R4", d.Rename("a", to), api.OK)
	turnTo()
	holds(t, "R4: Rename", d, "b", "123")
	answers(t, "R4", d.Create("c"), api.OK)
	to, turnTo = loose("c")
	answers(t, "R4", d.Rename("b", to), api.OK)
	turnTo()
	holds(t, "R4: Rename to a name that was there", d, "c", "123")
	to, turnTo = loose("c")
	answers(t, "R4", d.Rename("c", to), api.OK)
	turnTo()
	holds(t, "R4: Rename to itself", d, "c", "123")
	image, turnImage := loose("D\x01a\x00\x00\x00\x02xy")
	d, _ = disk.Open(image, 20)
	turnImage()
	holds(t, "R4: Open", d, "a", "xy")
}

func TestListsAreNewMemory(t *testing.T) {
	d := made(t, 20, "a", "12", "b", "34", "c", "5")
	d.Append("a", "678")
	names := d.Names()
	more := d.Names()
	_ = append(names[:1], "x", "y", "z")
	if !slices.Equal(more, []string{"a", "b", "c"}) {
		t.Errorf("4.4: two lists share memory: %q", more)
	}
	holds(t, "4.4: a list that was told is changed", d, "a", "12678", "b", "34", "c", "5")
	cuts := []api.Cut{{Name: "a", Keep: 2, Spoil: 1}, {Name: "b", Keep: 1, Spoil: 1}, {Name: "a", Keep: 9, Spoil: 9}}
	handed := slices.Clone(cuts)
	d.Crash(handed[:2])
	if !slices.Equal(handed, cuts) {
		t.Errorf("4.14: the cuts have changed: %v", handed)
	}
	holds(t, "4.13", d, "a", "1266", "b", "34", "c", "5")
	answers(t, "4.6", d.Append("b", "67"), api.OK)
	handed[1].Keep = 2
	d.Crash(nil)
	holds(t, "4.14: cuts are not kept", d, "a", "1266", "b", "34", "c", "5")
}

func TestWhatWasReadStays(t *testing.T) {
	d := made(t, 20, "a", "12")
	d.Append("a", "345")
	s, _ := d.Read("a", 0, 5)
	image := d.Image()
	d.Crash([]api.Cut{{Name: "a", Keep: 2, Spoil: 255}})
	d.Cut("a", 0)
	d.Append("a", "xyzuvw")
	d.Sync("a")
	if s != "12345" || image != "D\x01a\x00\x00\x00\x0212" {
		t.Errorf("R4: what was told has changed: %q, %q", s, image)
	}
}

// TestNoDisk: what New has refused, and what nobody has made, answers like a disk without power, and does not panic.
func TestNoDisk(t *testing.T) {
	for _, d := range []*disk.Disk{disk.New(-1), {}} {
		for range 2 {
			answers(t, "R1", d.Create("a"), api.ErrDown, d.Append("a", "1"), api.ErrDown, d.Sync("a"), api.ErrDown, d.Cut("a", 0), api.ErrDown, d.Rename("a", "b"), api.ErrDown, d.Delete("a"), api.ErrDown)
			if got, want := toldAll(d), toldAll(&model{off: true}); got != want {
				t.Errorf("R1: no disk:\n%s\n%s", got, want)
			}
			d.Arm(1, true)
			d.Crash([]api.Cut{{Name: "a", Keep: 1}})
		}
	}
}
