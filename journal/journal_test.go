package journal_test

import (
	"fmt"
	"math"
	"slices"
	"strconv"
	"strings"
	"testing"
	"unsafe"

	"kindred/api"
	"kindred/disk"
	"kindred/journal"
)

// edges are numbers with which sums, products and conversions wrap.
var edges = []int{math.MinInt, math.MinInt + 1, -1 << 61, -1 << 60, -1 << 48, -1 << 40, -1 << 32, -2, -1, 0, 1, 2, 3, 127, 128, 255, 256, 257, 258, 300, 1<<32 + 1, 1<<32 + 2, 1<<40 - 1, 1 << 40, 1<<40 + 1, 1<<48 - 1, 1 << 48, 1<<48 + 1, 1<<60 - 1, 1 << 60, 1<<60 + 1, 1 << 62, math.MaxInt - 1, math.MaxInt}

// widths are all, and what is near to them or turns into one where bits are lost.
var widths = func() []int {
	list := slices.Clone(edges)
	for w := -128; w <= 1200; w++ {
		list = append(list, w)
	}
	return append(list, 1<<32+64, 1<<61+64, 1<<62+64, math.MinInt+64, -1<<32+64, 2048, 65536)
}()

const a8 = "ABCDEFGH"

func put(seq, id int, code string) api.Update {
	return api.Update{Seq: seq, Kind: api.Put, ID: id, Code: code}
}

func dead(seq, id int) api.Update { return api.Update{Seq: seq, Kind: api.Dead, ID: id} }

// with is a disk on which a file stands, all of its bytes durable.
func with(t *testing.T, name, b string) *disk.Disk {
	t.Helper()
	d := disk.New(1 << 20)
	d.Create(name)
	d.Append(name, b)
	if e := d.Sync(name); e != api.OK {
		t.Fatalf("no disk with %s: %d", name, e)
	}
	return d
}

// bytesOf are all bytes of a file.
func bytesOf(d *disk.Disk, name string) string {
	n, _ := d.Size(name)
	b, _ := d.Read(name, 0, n)
	return b
}

// state is all that a disk tells.
func state(d *disk.Disk) string {
	var b strings.Builder
	fmt.Fprintf(&b, "%x %v %d %d %d %v", d.Image(), d.Names(), d.Used(), d.Age(), d.Writes(), d.Down())
	for _, name := range d.Names() {
		fmt.Fprintf(&b, " %s %x", name, bytesOf(d, name))
	}
	return b.String()
}

// unchanged: f changes nothing that the disk tells.
func unchanged(t *testing.T, where string, d *disk.Disk, f func()) {
	t.Helper()
	was := state(d)
	f()
	if is := state(d); is != was {
		t.Errorf("%s: the disk has changed:\n%s\n%s", where, was, is)
	}
}

// stands: the journal tells these two numbers.
func stands(t *testing.T, where string, j *journal.Journal, last, synced int) {
	t.Helper()
	if j.Last() != last || j.Synced() != synced {
		t.Errorf("%s: Last %d, Synced %d, want %d, %d", where, j.Last(), j.Synced(), last, synced)
	}
}

// created is a new journal of number 1.
func created(t *testing.T, d *disk.Disk, seq, w int) *journal.Journal {
	t.Helper()
	j, e := journal.Create(d, 1, seq, w)
	if e != api.OK || j == nil {
		t.Fatalf("5.4: Create: %d", e)
	}
	return j
}

// opened is the journal of number 1 with its updates.
func opened(t *testing.T, where string, d *disk.Disk, seq, w int) (*journal.Journal, []api.Update) {
	t.Helper()
	j, list, e := journal.Open(d, 1, seq, w)
	if e != api.OK || j == nil {
		t.Fatalf("%s: Open: %d", where, e)
	}
	return j, list
}

// looks: Look of journal 1 answers this, and writes nothing.
func looks(t *testing.T, where string, d *disk.Disk, seq, w int, list []api.Update, good int, errno api.Errno) {
	t.Helper()
	unchanged(t, where+" (Look writes nothing)", d, func() {
		l, at, e := journal.Look(d, 1, seq, w)
		if !slices.Equal(l, list) || at != good || e != errno {
			t.Fatalf("%s: Look: %x, %d, %d, want %x, %d, %d", where, l, at, e, list, good, errno)
		}
	})
}

func TestName(t *testing.T) {
	for _, n := range append([]int{9, 10, 11, 99, 100, 1234567890, 1<<31 - 1, 1 << 31, 1 << 32}, edges...) {
		want := ""
		if n > 0 && n <= 1<<40 {
			want = "j" + strconv.FormatInt(int64(n), 10)
		}
		if s := journal.Name(n); s != want {
			t.Errorf("5.1: Name(%d) = %q, want %q", n, s, want)
		}
	}
	if s := journal.Name(1 << 40); s != "j1099511627776" {
		t.Errorf("5.1: Name(2^40) = %q", s)
	}
}

func TestWrite(t *testing.T) {
	for _, c := range []struct {
		u    api.Update
		kind byte
		pay  string
	}{
		{put(1, 5, a8), 1, "\x01\x05ABCDEFGH"}, {dead(300, 0), 2, "\xac\x02\x00"}, {dead(127, 128), 2, "\x7f\x80\x01"},
		{put(1<<60, 1<<48, strings.Repeat("x", 128)), 1, "\x80\x80\x80\x80\x80\x80\x80\x80\x10" + "\x80\x80\x80\x80\x80\x80\x40" + strings.Repeat("x", 128)},
	} {
		if b, e := journal.Write(c.u); b != framed(c.kind, c.pay) || e != api.OK {
			t.Errorf("5.2: Write(%v) = %x, %d, want the frame of %d, %x", c.u, b, e, c.kind, c.pay)
		}
	}
	codes := []string{"", a8, a8[:7], a8 + "x", a8 + a8, strings.Repeat("\xa7", 128), strings.Repeat("\x00", 136)}
	for _, seq := range edges {
		for _, kind := range edges {
			for _, id := range edges {
				for _, code := range codes {
					wantWrite(t, api.Update{Seq: seq, Kind: kind, ID: id, Code: code})
				}
			}
		}
	}
	for n := range 1100 {
		wantWrite(t, put(7, 8, strings.Repeat("y", n)))
		wantWrite(t, api.Update{Seq: 7, Kind: api.Dead, ID: 8, Code: strings.Repeat("y", n)})
	}
	for _, n := range []int{1 << 13, 1 << 16, 1<<16 + 8, 1 << 20} {
		wantWrite(t, put(7, 8, strings.Repeat("z", n)))
	}
}

func wantWrite(t *testing.T, u api.Update) {
	t.Helper()
	want, errno := writeModel(u)
	if b, e := journal.Write(u); b != want || e != errno {
		t.Fatalf("5.2: Write(%d, %d, %d, %d bytes) = %x, %d, want %x, %d", u.Seq, u.Kind, u.ID, len(u.Code), b, e, want, errno)
	}
}

func wantRead(t *testing.T, b string, w int) bool {
	t.Helper()
	want, errno := readModel(b, w)
	u, e := journal.Read(b, w)
	if u != want || e != errno {
		t.Fatalf("5.3: Read(%x, %d) = %x, %d, want %x, %d", b, w, u, e, want, errno)
	}
	return e == api.OK
}

func TestRead(t *testing.T) {
	b := framed(1, "\x01\x05"+a8)
	big := seven(math.MaxInt)
	for _, c := range []struct {
		b string
		w int
		u api.Update
		e api.Errno
	}{
		{b, 64, put(1, 5, a8), api.OK}, {framed(2, "\x07\x05"), 1024, dead(7, 5), api.OK}, {framed(2, seven(1<<60)+seven(1<<48)), 64, dead(1<<60, 1<<48), api.OK},
		{"", 0, api.Update{}, api.ErrWidth}, {b + "x", 63, api.Update{}, api.ErrWidth},
		{"", 64, api.Update{}, api.ErrShort}, {b[:len(b)-1], 64, api.Update{}, api.ErrShort}, {"x" + b, 64, api.Update{}, api.ErrMagic}, {b[:len(b)-1] + "x", 64, api.Update{}, api.ErrSum}, {framed(0, ""), 64, api.Update{}, api.ErrKind},
		{framed(3, "") + "x", 64, api.Update{}, api.ErrLong}, {b + b, 64, api.Update{}, api.ErrLong}, {b + "x", 128, api.Update{}, api.ErrLong},
		{framed(3, ""), 64, api.Update{}, api.ErrKind}, {framed(255, "\x00"), 64, api.Update{}, api.ErrKind},
		{framed(2, ""), 64, api.Update{}, api.ErrShort}, {framed(2, "\x80"), 64, api.Update{}, api.ErrShort}, {framed(2, "\x81\x00"), 64, api.Update{}, api.ErrForm}, {framed(2, strings.Repeat("\xff", 9)+"\x02"), 64, api.Update{}, api.ErrOver},
		{framed(2, "\x00"), 64, api.Update{}, api.ErrSeq}, {framed(2, seven(1<<60+1)), 64, api.Update{}, api.ErrSeq}, {framed(2, big), 64, api.Update{}, api.ErrSeq}, {framed(2, strings.Repeat("\xff", 9)+"\x01"), 64, api.Update{}, api.ErrSeq}, {framed(2, strings.Repeat("\x80", 9)+"\x01"), 64, api.Update{}, api.ErrSeq},
		{framed(2, "\x01"), 64, api.Update{}, api.ErrShort}, {framed(1, "\x01\x80\x00"), 64, api.Update{}, api.ErrForm}, {framed(1, "\x01"+strings.Repeat("\xff", 9)+"\x02"), 64, api.Update{}, api.ErrOver},
		{framed(2, "\x01"+seven(1<<48+1)+"x"), 64, api.Update{}, api.ErrID}, {framed(1, "\x01"+big), 64, api.Update{}, api.ErrID}, {framed(2, "\x01"+strings.Repeat("\xff", 9)+"\x01"), 64, api.Update{}, api.ErrID}, {framed(2, "\x01"+strings.Repeat("\x80", 9)+"\x01"), 64, api.Update{}, api.ErrID},
		{b, 128, api.Update{}, api.ErrCode}, {framed(2, "\x01\x05x"), 64, api.Update{}, api.ErrCode}, {framed(2, "\x01\x05"+a8), 64, api.Update{}, api.ErrCode}, {framed(1, "\x01\x05"), 64, api.Update{}, api.ErrCode}, {framed(1, "\x01\x05"+a8+"x"), 64, api.Update{}, api.ErrCode}, {framed(1, "\x01\x05"+a8+a8), 64, api.Update{}, api.ErrCode},
	} {
		if u, e := journal.Read(c.b, c.w); u != c.u || e != c.e {
			t.Errorf("5.3: Read(%x, %d) = %x, %d, want %x, %d", c.b, c.w, u, e, c.u, c.e)
		}
	}
	for _, w := range widths {
		for _, b := range []string{b, framed(2, "\x07\x05"), framed(1, "\x01\x05"+strings.Repeat("x", 128)), framed(3, ""), "x", ""} {
			wantRead(t, b, w)
		}
	}
}

func TestReadOfAnyBytes(t *testing.T) {
	parts := []string{"", "\x00", "\x01", "\x05", "\x80", "\x80\x00", "\xff\x01", strings.Repeat("\x80", 8), strings.Repeat("\xff", 9), "\x02", "\x10", "\x40", a8, a8[:7], a8 + a8}
	taken := 0
	for _, p := range parts {
		for _, q := range parts {
			for _, r := range parts {
				for kind := range 4 {
					f := framed(byte(kind), p+q+r)
					for _, w := range []int{63, 64, 128} {
						if wantRead(t, f, w) {
							taken++
							wantWritten(t, f, w)
						}
					}
					wantRead(t, f+p, 64)
					wantRead(t, f[:len(f)-1], 64)
				}
			}
		}
	}
	if taken < 50 {
		t.Errorf("5.3: of many frames %d alone were updates", taken)
	}
}

// wantWritten is 5.10's second half.
func wantWritten(t *testing.T, b string, w int) {
	t.Helper()
	u, _ := journal.Read(b, w)
	if again, e := journal.Write(u); again != b || e != api.OK {
		t.Fatalf("5.10: Read(%x) is %x, and that is written as %x, %d", b, u, again, e)
	}
}

func TestReadUndoesWrite(t *testing.T) {
	g := from(5)
	for i := range 3000 {
		w := g.width()
		u := g.update(g.number(1, 1<<60), w)
		b, e := journal.Write(u)
		if e != api.OK {
			t.Fatalf("5.2: Write(%x) = %d", u, e)
		}
		if got, e := journal.Read(b, w); got != u || e != api.OK {
			t.Fatalf("5.10: Read(Write(%x), %d) = %x, %d", u, w, got, e)
		}
		wantWritten(t, b, w)
		other := g.width()
		wantRead(t, b, other)
		if i%10 == 0 {
			spoilt := []byte(b)
			spoilt[g.Below(len(b))] ^= byte(1 + g.Below(255))
			wantRead(t, string(spoilt), w)
			wantRead(t, b[:g.Below(len(b))], w)
		}
	}
}

// refused is what all three calls refuse first.
func refused(number, seq, w int) api.Errno {
	switch {
	case number < 1 || number > 1<<40:
		return api.ErrRange
	case !isWidth(w):
		return api.ErrWidth
	case seq < 0 || seq > 1<<60:
		return api.ErrSeq
	}
	return api.OK
}

func TestFirstRefusals(t *testing.T) {
	off := with(t, "j1", "")
	off.Arm(1, false)
	off.Sync("j1")
	for _, d := range []*disk.Disk{with(t, "j1", "bad tail"), off} {
		unchanged(t, "5.4 to 5.6: a refusal", d, func() {
			for _, number := range edges {
				for _, seq := range edges {
					for _, w := range []int{math.MinInt, -64, 0, 63, 64, 65, 96, 1024, 1088, 1<<32 + 64, math.MaxInt} {
						if want := refused(number, seq, w); want != api.OK {
							refuse(t, d, number, seq, w, want)
						}
					}
				}
			}
			for _, w := range widths {
				if want := refused(1, 0, w); want != api.OK {
					refuse(t, d, 1, 0, w, want)
				}
			}
		})
	}
	for _, number := range []int{1, 1 << 40} {
		for _, seq := range []int{0, 1, 1<<60 - 1, 1 << 60} {
			for w := 64; w <= 1024; w += 64 {
				refuse(t, off, number, seq, w, api.ErrDown)
				d := disk.New(100)
				j, e := journal.Create(d, number, seq, w)
				if e != api.OK || j == nil || !slices.Equal(d.Names(), []string{journal.Name(number)}) {
					t.Fatalf("5.4: Create(%d, %d, %d): %d, %q", number, seq, w, e, d.Names())
				}
				stands(t, "5.4", j, seq, seq)
			}
		}
	}
}

// refuse: all three calls answer this, and nothing else.
func refuse(t *testing.T, d *disk.Disk, number, seq, w int, want api.Errno) {
	t.Helper()
	if j, e := journal.Create(d, number, seq, w); j != nil || e != want {
		t.Fatalf("5.4: Create(%d, %d, %d): %v, %d, want %d", number, seq, w, j != nil, e, want)
	}
	if l, at, e := journal.Look(d, number, seq, w); len(l) != 0 || at != 0 || e != want {
		t.Fatalf("5.5: Look(%d, %d, %d): %v, %d, %d, want %d", number, seq, w, l, at, e, want)
	}
	if j, l, e := journal.Open(d, number, seq, w); j != nil || len(l) != 0 || e != want {
		t.Fatalf("5.6: Open(%d, %d, %d): %v, %v, %d, want %d", number, seq, w, j != nil, l, e, want)
	}
}

func TestCreate(t *testing.T) {
	d := with(t, "j10", "other")
	j := created(t, d, 7, 64)
	if !slices.Equal(d.Names(), []string{"j1", "j10"}) || bytesOf(d, "j1") != "" || bytesOf(d, "j10") != "other" || d.Writes() != 4 {
		t.Errorf("5.4: behind Create: %s", state(d))
	}
	stands(t, "5.4", j, 7, 7)
	unchanged(t, "5.4", d, func() {
		for _, number := range []int{1, 10} {
			if k, e := journal.Create(d, number, 0, 64); k != nil || e != api.ErrExists {
				t.Errorf("5.4: Create(%d) again: %d", number, e)
			}
		}
	})
	looks(t, "5.5: without updates", d, 7, 64, nil, 0, api.OK)
	d.Crash(nil)
	looks(t, "5.4: a name is durable at once", d, 7, 64, nil, 0, api.OK)
}

// TestSeveralJournals: each number has a file of its own.
func TestSeveralJournals(t *testing.T) {
	d := disk.New(1000)
	numbers := []int{1, 2, 12, 1 << 40}
	want := map[string]string{}
	for i, number := range numbers {
		j, e := journal.Create(d, number, i, 64)
		if e != api.OK {
			t.Fatalf("5.4: Create(%d): %d", number, e)
		}
		u, v := put(i+1, number, a8), dead(i+2, number)
		j.Append(u)
		if e := j.Sync(); e != api.OK {
			t.Errorf("5.8: journal %d: %d", number, e)
		}
		j, list, e := journal.Open(d, number, i, 64)
		if e != api.OK || !slices.Equal(list, []api.Update{u}) {
			t.Fatalf("5.6: Open(%d): %v, %d", number, list, e)
		}
		if e := j.Append(v); e != api.OK {
			t.Errorf("5.7: journal %d: %d", number, e)
		}
		want["j"+strconv.Itoa(number)] = file([]api.Update{u, v})
	}
	for name, b := range want {
		if bytesOf(d, name) != b {
			t.Errorf("5.7: %s has %x, want %x", name, bytesOf(d, name), b)
		}
	}
	d.Crash(nil)
	for i, number := range numbers {
		if list, _, e := journal.Look(d, number, i, 64); e != api.OK || len(list) != 1 {
			t.Errorf("5.8: Look(%d) behind a crash: %v, %d", number, list, e)
		}
	}
}

func TestCreateOnAFullDisk(t *testing.T) {
	d := disk.New(0)
	for i := range 4096 {
		if e := d.Create("f" + strconv.Itoa(i)); e != api.OK {
			t.Fatalf("file %d: %d", i, e)
		}
	}
	if j, e := journal.Create(d, 1, 0, 64); j != nil || e != api.ErrMany {
		t.Errorf("5.4: Create of a file too many: %d", e)
	}
	d.Delete("f0")
	j := created(t, d, 0, 64)
	if e := j.Append(dead(1, 1)); e != api.ErrFull {
		t.Errorf("5.7: Append without room: %d", e)
	}
	if e := j.Sync(); e != api.OK {
		t.Errorf("5.8: Sync without room: %d", e)
	}
}

func TestCreateAmidAPowerCut(t *testing.T) {
	for _, done := range []bool{true, false} {
		d := disk.New(100)
		d.Arm(1, done)
		if j, e := journal.Create(d, 1, 0, 64); j != nil || e != api.ErrDown {
			t.Errorf("5.4: Create, amid which the power goes: %v, %d", j != nil, e)
		}
		d.Crash(nil)
		if (len(d.Names()) == 1) != done {
			t.Errorf("5.4: Create, amid which the power goes: %q", d.Names())
		}
	}
}

func TestLook(t *testing.T) {
	g := from(6)
	for range 300 {
		w, seq := g.width(), g.number(0, 1<<60-8)
		list := g.updates(g.Below(8), seq, w)
		b := file(list)
		d := with(t, "j1", b)
		looks(t, "5.5", d, seq, w, list, len(b), api.OK)
		bad := g.Text(g.Below(40))
		d.Append("j1", bad)
		if !strings.HasPrefix(bad, "\xa7") {
			looks(t, "5.5: a bad tail", d, seq, w, list, len(b), api.OK)
		}
		for _, off := range []int{-1, 1, 128} {
			if len(list) > 0 && seq+off >= 0 && seq+off <= 1<<60 {
				looks(t, "5.5: the first number is another", d, seq+off, w, nil, 0, api.ErrCorrupt)
			}
		}
	}
}

// TestLookAtTornFrames: every beginning of a frame, its last byte whatever it may be, is a bad tail, and so is all that stands behind it.
func TestLookAtTornFrames(t *testing.T) {
	list := []api.Update{put(1, 5, a8), dead(2, 5)}
	b := file(list)
	for _, next := range []api.Update{dead(3, 5), put(3, 6, a8)} {
		f, _ := writeModel(next)
		for n := 1; n <= len(f); n++ {
			for c := range 256 {
				torn := f[:n-1] + string([]byte{byte(c)})
				if torn == f {
					continue
				}
				l, at, e := lookBytes(t, b+torn, 0, 64)
				if !slices.Equal(l, list) || at != len(b) || e != api.OK {
					t.Fatalf("5.5: %x behind two updates: %v, %d, %d", torn, l, at, e)
				}
			}
		}
	}
	for _, tail := range []string{"x" + file([]api.Update{dead(3, 5)}), "x" + framed(3, ""), framed(1, "\x03")[:14] + framed(9, ""), "\xa7" + framed(2, "\x09\x09"), "\x00", strings.Repeat("\x00", 100), framed(0, "")} {
		d := with(t, "j1", b+tail)
		looks(t, "5.5: behind the bad tail's beginning nothing counts", d, 0, 64, list, len(b), api.OK)
	}
}

func lookBytes(t *testing.T, b string, seq, w int) ([]api.Update, int, api.Errno) {
	t.Helper()
	return journal.Look(with(t, "j1", b), 1, seq, w)
}

// TestLookAtWhatDoesNotGo: a frame that can be read and is no update, or not the next one, is an error wherever it stands, with a bad tail behind it or without.
func TestLookAtWhatDoesNotGo(t *testing.T) {
	good := func(from, to int) string {
		var list []api.Update
		for seq := from; seq <= to; seq++ {
			list = append(list, put(seq, seq, a8))
		}
		return file(list)
	}
	for n := range 4 {
		for _, wrong := range []string{
			framed(3, ""), framed(255, seven(n+1)+"\x05"), framed(1, ""), framed(2, ""), framed(1, strings.Repeat("x", 65536)),
			framed(2, seven(n)+"\x05"), framed(2, seven(n+2)+"\x05"), framed(2, "\x00\x05"), framed(2, seven(1<<60+1)+"\x05"), framed(2, strings.Repeat("\xff", 9)+"\x01\x05"),
			framed(2, seven(n+1)), framed(2, seven(n+1)+"\x05\x00"), framed(2, seven(n+1)+"\x80\x00"), framed(2, seven(n+1)+seven(1<<48+1)), framed(1, seven(n+1)+"\x05"), framed(1, seven(n+1)+"\x05"+a8+a8), framed(1, seven(n+1)+"\x05"+a8[1:]), framed(2, seven(n+1)+"\x05"+a8),
		} {
			for _, behind := range []string{"", "x", good(n+1, n+1), good(n+2, n+3)} {
				d := with(t, "j1", good(1, n)+wrong+behind)
				looks(t, "5.5: a frame that does not go", d, 0, 64, nil, 0, api.ErrCorrupt)
				unchanged(t, "5.6: a frame that does not go", d, func() {
					if j, l, e := journal.Open(d, 1, 0, 64); j != nil || len(l) != 0 || e != api.ErrCorrupt {
						t.Fatalf("5.6: Open: %v, %v, %d", j != nil, l, e)
					}
				})
			}
		}
	}
	d := with(t, "j1", good(1, 3))
	looks(t, "5.5: codes of another width", d, 0, 128, nil, 0, api.ErrCorrupt)
	looks(t, "5.5: no number is above 2^60", d, 1<<60, 64, nil, 0, api.ErrCorrupt)
	last := []api.Update{dead(1<<60-1, 0), dead(1<<60, 1<<48)}
	looks(t, "5.5: up to 2^60", with(t, "j1", file(last)), 1<<60-2, 64, last, len(file(last)), api.OK)
}

func TestLookAtAnyFrames(t *testing.T) {
	g := from(7)
	corrupt := 0
	for range 4000 {
		w := 64 * (1 + g.Below(2))
		seq := g.Below(3)
		var b strings.Builder
		for n := range g.Below(6) {
			u := g.update(seq+n+1, w)
			switch g.Below(12) {
			case 0:
				u.Seq += g.Below(3) - 1
			case 1:
				b.WriteString(framed(byte(g.Below(4)), g.Text(g.Below(12))))
			case 2:
				f, _ := writeModel(u)
				b.WriteString(f[:g.Below(len(f))])
			}
			b.WriteString(file([]api.Update{u}))
		}
		want, good, errno := lookModel(b.String(), seq, w)
		if errno != api.OK {
			corrupt++
		}
		looks(t, fmt.Sprintf("5.5: %x", b.String()), with(t, "j1", b.String()), seq, w, want, good, errno)
	}
	if corrupt < 400 || corrupt > 3000 {
		t.Errorf("5.5: of 4000 files %d were corrupt", corrupt)
	}
}

func TestLookRefusesWhatTheDiskDoes(t *testing.T) {
	d := with(t, "j1", "")
	unchanged(t, "5.5, 5.6: a refusal", d, func() {
		for _, number := range []int{2, 11, 1 << 40} {
			if l, at, e := journal.Look(d, number, 0, 64); len(l) != 0 || at != 0 || e != api.ErrNone {
				t.Errorf("5.5: Look(%d): %v, %d, %d", number, l, at, e)
			}
			if j, l, e := journal.Open(d, number, 0, 64); j != nil || len(l) != 0 || e != api.ErrNone {
				t.Errorf("5.6: Open(%d): %v, %d", number, l, e)
			}
		}
	})
	if l, at, e := journal.Look(nil, 1, 0, 64); len(l) != 0 || at != 0 || e != api.ErrDown {
		t.Errorf("R1: Look without a disk: %v, %d, %d", l, at, e)
	}
}

func TestLookAtUnsyncedUpdates(t *testing.T) {
	d := disk.New(1000)
	j := created(t, d, 0, 64)
	list := []api.Update{put(1, 5, a8), dead(2, 5), put(3, 1<<48, "\xa7\x00\xff12345")}
	for i, u := range list {
		if e := j.Append(u); e != api.OK {
			t.Fatalf("5.7: Append(%v): %d", u, e)
		}
		looks(t, "5.5: unsynced updates", d, 0, 64, list[:i+1], len(file(list[:i+1])), api.OK)
	}
	if bytesOf(d, "j1") != file(list) {
		t.Errorf("5.7: the file is %x, want %x", bytesOf(d, "j1"), file(list))
	}
}

func TestOpen(t *testing.T) {
	g := from(8)
	for range 300 {
		w, seq := g.width(), g.number(0, 1<<60-8)
		list := g.updates(g.Below(6), seq, w)
		b := file(list)
		f, _ := writeModel(g.update(seq+len(list)+1, w))
		tail := f[:g.Below(len(f))]
		d := with(t, "j1", b+tail)
		writes := d.Writes()
		j, got := opened(t, "5.6", d, seq, w)
		if !slices.Equal(got, list) || bytesOf(d, "j1") != b || d.Writes()-writes != min(len(tail), 1) {
			t.Fatalf("5.6: Open: %x, %d writes, want %x", got, d.Writes()-writes, list)
		}
		stands(t, "5.6", j, seq+len(list), seq)
		unchanged(t, "5.11: opened again", d, func() {
			k, again := opened(t, "5.11", d, seq, w)
			if !slices.Equal(again, list) {
				t.Fatalf("5.11: opened again: %x, want %x", again, list)
			}
			stands(t, "5.6: opened again", k, seq+len(list), seq)
		})
		next := g.update(seq+len(list)+1, w)
		if e := j.Append(next); e != api.OK || bytesOf(d, "j1") != file(append(list, next)) {
			t.Fatalf("5.7: Append behind Open: %d, %x", e, bytesOf(d, "j1"))
		}
		stands(t, "5.7: behind Open", j, next.Seq, seq)
		if e := j.Sync(); e != api.OK {
			t.Fatalf("5.8: Sync behind Open: %d", e)
		}
		stands(t, "5.8: behind Open", j, next.Seq, next.Seq)
	}
}

func TestOpenAmidAPowerCut(t *testing.T) {
	list := []api.Update{put(1, 5, a8), dead(2, 5)}
	b := file(list)
	for _, done := range []bool{true, false} {
		d := with(t, "j1", b+"tail")
		d.Arm(1, done)
		if j, l, e := journal.Open(d, 1, 0, 64); j != nil || len(l) != 0 || e != api.ErrDown {
			t.Errorf("5.6: Open, amid which the power goes: %v, %v, %d", j != nil, l, e)
		}
		if j, l, e := journal.Open(d, 1, 0, 64); j != nil || len(l) != 0 || e != api.ErrDown {
			t.Errorf("5.6: Open without power: %v, %v, %d", j != nil, l, e)
		}
		d.Crash(nil)
		if (bytesOf(d, "j1") == b) != done {
			t.Errorf("5.6: behind the cut: %x", bytesOf(d, "j1"))
		}
		j, got := opened(t, "5.11", d, 0, 64)
		if !slices.Equal(got, list) || bytesOf(d, "j1") != b {
			t.Errorf("5.11: opened behind the cut: %v", got)
		}
		stands(t, "5.6", j, 2, 0)
	}
	d := with(t, "j1", b)
	d.Arm(1, true)
	opened(t, "5.6: an Open that need not cut writes nothing, so the power stays", d, 0, 64)
	if d.Down() {
		t.Errorf("5.6: the power is off behind an Open that need not cut")
	}
}

func TestAppend(t *testing.T) {
	for _, w := range []int{64, 128, 1024} {
		d := disk.New(1 << 20)
		j := created(t, d, 4, w)
		code := strings.Repeat("c", w/8)
		if e := j.Append(put(5, 1, code)); e != api.OK {
			t.Fatalf("5.7: Append: %d", e)
		}
		stands(t, "5.7", j, 5, 4)
		unchanged(t, "5.7: a refusal", d, func() {
			for _, seq := range append([]int{4, 5, 6, 7, 8}, edges...) {
				for _, kind := range []int{math.MinInt, -1, 0, 1, 2, 3, 257, 1<<32 + 1, math.MaxInt} {
					for _, id := range edges {
						for _, n := range []int{0, 7, 8, 9, 16, 128, 136, w / 8} {
							u := api.Update{Seq: seq, Kind: kind, ID: id, Code: strings.Repeat("c", n)}
							wantAppend(t, j, u, w)
						}
					}
				}
			}
		})
		stands(t, "5.7: behind refusals", j, 5, 4)
		writes := d.Writes()
		if e := j.Append(dead(6, 1)); e != api.OK || d.Writes() != writes+1 {
			t.Errorf("5.7: Append behind refusals: %d, %d writes", e, d.Writes()-writes)
		}
		looks(t, "5.7", d, 4, w, []api.Update{put(5, 1, code), dead(6, 1)}, len(bytesOf(d, "j1")), api.OK)
	}
}

// wantAppend: u is refused as 5.7 says by a journal whose last update is the fifth; one that it would take is left out.
func wantAppend(t *testing.T, j *journal.Journal, u api.Update, w int) {
	t.Helper()
	_, want := writeModel(u)
	if want == api.OK && u.Kind == 1 && len(u.Code)*8 != w {
		want = api.ErrCode
	}
	if want == api.OK && u.Seq != 6 {
		want = api.ErrSeq
	}
	if want == api.OK {
		return
	}
	if e := j.Append(u); e != want {
		t.Fatalf("5.7: Append(%d, %d, %d, %d bytes) with %d bits: %d, want %d", u.Seq, u.Kind, u.ID, len(u.Code), w, e, want)
	}
}

func TestAppendUpToTheLastNumber(t *testing.T) {
	d := disk.New(1000)
	j := created(t, d, 1<<60-1, 64)
	if e := j.Append(dead(1<<60, 0)); e != api.OK {
		t.Errorf("5.7: Append of number 2^60: %d", e)
	}
	for _, seq := range []int{1<<60 + 1, 1, 0, 1 << 60} {
		if e := j.Append(dead(seq, 0)); e != api.ErrSeq {
			t.Errorf("5.7: Append of %d behind 2^60: %d", seq, e)
		}
	}
	stands(t, "5.7", j, 1<<60, 1<<60-1)
	j = created(t, disk.New(1000), 1<<60, 64)
	if e := j.Append(dead(1<<60+1, 0)); e != api.ErrSeq {
		t.Errorf("5.7: Append behind 2^60: %d", e)
	}
	stands(t, "5.7", j, 1<<60, 1<<60)
}

func TestWhatTheDiskRefusesComesThrough(t *testing.T) {
	b, _ := writeModel(put(1, 5, a8))
	d := disk.New(len(b)*2 - 1)
	j := created(t, d, 0, 64)
	if e := j.Append(put(1, 5, a8)); e != api.OK {
		t.Fatalf("5.7: Append: %d", e)
	}
	unchanged(t, "5.7: a full disk", d, func() {
		if e := j.Append(put(2, 6, a8)); e != api.ErrFull {
			t.Errorf("5.7: Append to a full disk: %d", e)
		}
	})
	stands(t, "5.7: a full disk", j, 1, 0)
	if e := j.Append(dead(2, 5)); e != api.OK {
		t.Errorf("5.7: a shorter one has room: %d", e)
	}
	d.Delete("j1")
	unchanged(t, "5.7, 5.8: without its file", d, func() {
		if e := j.Append(dead(3, 5)); e != api.ErrNone {
			t.Errorf("5.7: Append without the file: %d", e)
		}
		if e := j.Sync(); e != api.ErrNone {
			t.Errorf("5.8: Sync without the file: %d", e)
		}
	})
	stands(t, "5.7, 5.8: without its file", j, 2, 0)
}

func TestAppendToTheLongestFile(t *testing.T) {
	const most = 1 << 28
	b, _ := writeModel(dead(1, 5))
	d := disk.New(1 << 30)
	j := created(t, d, 0, 64)
	if e := d.Append("j1", strings.Repeat("x", most-len(b)+1)); e != api.OK {
		t.Fatalf("no file of so many bytes: %d", e)
	}
	if e := j.Append(dead(1, 5)); e != api.ErrBig || j.Last() != 0 {
		t.Errorf("5.7: Append past the longest file: %d", e)
	}
	d.Cut("j1", most-len(b))
	if e := j.Append(dead(1, 5)); e != api.OK || j.Last() != 1 {
		t.Errorf("5.7: Append up to the longest file: %d", e)
	}
	if e := j.Append(dead(2, 5)); e != api.ErrBig || j.Last() != 1 {
		t.Errorf("5.7: Append behind the longest file: %d", e)
	}
}

func TestSync(t *testing.T) {
	d := disk.New(1000)
	j := created(t, d, 3, 64)
	d.Create("other")
	d.Append("other", "unsynced")
	for i := range 3 {
		if e := j.Sync(); e != api.OK || d.Writes() != 4+i {
			t.Errorf("5.8: Sync of nothing new: %d, %d writes", e, d.Writes())
		}
		stands(t, "5.8", j, 3, 3)
	}
	j.Append(put(4, 5, a8))
	j.Append(dead(5, 5))
	stands(t, "5.7", j, 5, 3)
	if e := j.Sync(); e != api.OK {
		t.Errorf("5.8: Sync: %d", e)
	}
	stands(t, "5.8", j, 5, 5)
	j.Append(dead(6, 5))
	stands(t, "5.8: the next one is not synced", j, 6, 5)
	d.Crash(nil)
	list := []api.Update{put(4, 5, a8), dead(5, 5)}
	looks(t, "5.8: what was synced", d, 3, 64, list, len(file(list)), api.OK)
	if bytesOf(d, "other") != "" {
		t.Errorf("5.8: a file of others was synced")
	}
}

// givenUp are ways in which a journal is given up, or the power is off.
func givenUp() map[string]func(d *disk.Disk, j *journal.Journal) {
	return map[string]func(d *disk.Disk, j *journal.Journal){
		"a crash with the power on": func(d *disk.Disk, j *journal.Journal) { d.Crash(nil) },
		"a crash that keeps all":    func(d *disk.Disk, j *journal.Journal) { d.Crash([]api.Cut{{Name: "j1", Keep: 999}}) },
		"the power goes amid Append": func(d *disk.Disk, j *journal.Journal) {
			d.Arm(1, true)
			j.Append(dead(4, 5))
		},
		"the power goes amid Sync": func(d *disk.Disk, j *journal.Journal) {
			d.Arm(1, true)
			j.Sync()
		},
		"the power goes amid Append, and comes back": func(d *disk.Disk, j *journal.Journal) {
			d.Arm(1, false)
			j.Append(dead(4, 5))
			d.Crash(nil)
		},
		"the power goes amid another's write": func(d *disk.Disk, j *journal.Journal) {
			d.Arm(1, true)
			d.Create("other")
		},
		"the power goes amid another's write, and comes back": func(d *disk.Disk, j *journal.Journal) {
			d.Arm(1, true)
			d.Create("other")
			d.Crash(nil)
		},
		"many crashes": func(d *disk.Disk, j *journal.Journal) {
			for range 256 {
				d.Crash(nil)
			}
		},
	}
}

func TestGivenUp(t *testing.T) {
	for how, give := range givenUp() {
		d := disk.New(1000)
		j := created(t, d, 0, 64)
		j.Append(put(1, 5, a8))
		j.Append(dead(2, 5))
		j.Sync()
		j.Append(put(3, 6, a8))
		give(d, j)
		stands(t, "5.9: "+how, j, 3, 2)
		for range 3 {
			unchanged(t, "5.7, 5.8: "+how, d, func() {
				for _, u := range []api.Update{put(4, 6, a8), dead(3, 5), dead(0, 5), put(4, 6, "x"), {}} {
					if e := j.Append(u); e != api.ErrDown {
						t.Errorf("5.7: %s: Append(%v): %d", how, u, e)
					}
				}
				if e := j.Sync(); e != api.ErrDown {
					t.Errorf("5.8: %s: Sync: %d", how, e)
				}
			})
			stands(t, "5.9: "+how, j, 3, 2)
			d.Crash(nil)
		}
		k, list := opened(t, "5.6: "+how, d, 0, 64)
		next := len(list) + 1
		if e := k.Append(dead(next, 6)); e != api.OK {
			t.Errorf("5.7: %s: a journal that is opened anew: %d", how, e)
		}
		if e := j.Append(dead(4, 6)); e != api.ErrDown {
			t.Errorf("5.7: %s: the old one beside a new one: %d", how, e)
		}
		if e := k.Sync(); e != api.OK {
			t.Errorf("5.8: %s: a journal that is opened anew: %d", how, e)
		}
		stands(t, "5.9: "+how, j, 3, 2)
		stands(t, "5.6: "+how, k, next, next)
	}
}

func TestPowerGoesAmidACall(t *testing.T) {
	for _, done := range []bool{true, false} {
		d := disk.New(1000)
		j := created(t, d, 0, 64)
		j.Append(put(1, 5, a8))
		d.Arm(2, done)
		if e := j.Append(put(7, 5, a8)); e != api.ErrSeq || d.Down() {
			t.Errorf("5.7: a refused Append is no write: %d", e)
		}
		if e := j.Sync(); e != api.OK {
			t.Errorf("5.8: Sync: %d", e)
		}
		if e := j.Append(dead(2, 5)); e != api.ErrDown {
			t.Errorf("5.7: Append, amid which the power goes: %d", e)
		}
		stands(t, "5.9: the power goes amid Append", j, 1, 1)
		d.Crash([]api.Cut{{Name: "j1", Keep: 999}})
		list := []api.Update{put(1, 5, a8), dead(2, 5)}
		j, got := opened(t, "5.11", d, 0, 64)
		if !slices.Equal(got, list) {
			t.Errorf("5.11: the one under way: %v", got)
		}
		j.Append(dead(3, 6))
		d.Arm(1, done)
		if e := j.Sync(); e != api.ErrDown {
			t.Errorf("5.8: Sync, amid which the power goes: %d", e)
		}
		stands(t, "5.9: the power goes amid Sync", j, 3, 0)
		d.Crash(nil)
		if _, got := opened(t, "5.11", d, 0, 64); !slices.Equal(got, list) {
			t.Errorf("5.11: what a cut leaves is durable: %v", got)
		}
	}
}

// TestABeginningSurvives goes through all places at which the power can go in a short row of calls, all that can be kept, and, at the last write, all last bytes.
func TestABeginningSurvives(t *testing.T) {
	list := []api.Update{put(1, 5, a8), dead(2, 5), put(3, 5, "\xa7\x01\x00\x00\x00\x00\x00\x00"), put(4, 300, a8), dead(5, 300)}
	const calls = 8 // the updates, and Syncs behind the first, the third and the last
	for n := 1; n <= calls+1; n++ {
		spoils := []int{0, 1, 0x80, 0xff}
		if n == calls {
			spoils = spoils[:0]
			for c := range 256 {
				spoils = append(spoils, c)
			}
		}
		for keep := -1; ; keep++ {
			unsynced := 0
			for _, spoil := range spoils {
				unsynced = survives(t, list, n, keep, byte(spoil))
			}
			if keep > unsynced {
				break
			}
		}
	}
}

// survives lets the power go at the n-th write, and looks at what Open tells; it answers how many bytes were unsynced.
func survives(t *testing.T, list []api.Update, n, keep int, spoil byte) int {
	t.Helper()
	d := disk.New(1000)
	j := created(t, d, 0, 64)
	d.Arm(n, true)
	synced, made := 0, 0
	for i, u := range list {
		if d.Down() {
			break
		}
		made = i + 1
		if j.Append(u) == api.OK && (i == 0 || i == 2 || i == 4) && j.Sync() == api.OK {
			synced = i + 1
		}
	}
	durable, unsynced := file(list[:synced]), file(list[synced:made])
	left := kept(unsynced, keep, spoil)
	d.Crash([]api.Cut{{Name: "j1", Keep: keep, Spoil: spoil}})
	want := synced
	for want < made && strings.HasPrefix(durable+left, file(list[:want+1])) {
		want++
	}
	where := fmt.Sprintf("5.11: the power goes at write %d, %d bytes are kept, the last one turned by %x", n, keep, spoil)
	for again := range 2 {
		writes := d.Writes()
		k, got := opened(t, where, d, 0, 64)
		if !slices.Equal(got, list[:want]) || bytesOf(d, "j1") != file(list[:want]) {
			t.Fatalf("%s: Open tells %d updates, want %d", where, len(got), want)
		}
		stands(t, where, k, want, 0)
		if again == 1 && d.Writes() != writes {
			t.Fatalf("%s: opened again it writes", where)
		}
	}
	return len(unsynced)
}

// TestAgainstTheModel makes calls on a journal's disk and on the journals over it, old ones too, and holds all answers against the chapters' words.
func TestAgainstTheModel(t *testing.T) {
	g := from(9)
	told, lost := 0, 0
	for round := range 400 {
		m := &model{capacity: 300 + g.Below(2000), width: 64 * (1 + g.Below(3)), seq: g.number(0, 1<<60-200)}
		d := disk.New(m.capacity)
		hands := []*hand{{m: m, last: m.seq, synced: m.seq}}
		journals := []*journal.Journal{created(t, d, m.seq, m.width)}
		m.writes = 1
		for step := range 80 {
			where := fmt.Sprintf("round %d, step %d", round, step)
			i := len(hands) - 1
			if g.Below(10) == 0 {
				i = g.Below(len(hands))
			}
			switch g.Below(12) {
			case 0:
				n, done := g.Below(7), g.Below(2) == 0
				d.Arm(n, done)
				if !m.off {
					m.ends, m.done = 0, done
					if n > 0 {
						m.ends = m.writes + n
					}
				}
			case 1:
				keep, spoil := g.Below(len(m.unsynced)+3)-1, byte(g.Below(3)*g.Below(256))
				d.Crash([]api.Cut{{Name: "j1", Keep: keep, Spoil: spoil}})
				m.crash(keep, spoil)
			case 2, 3:
				h, want, errno := m.open()
				j, list, e := journal.Open(d, 1, m.seq, m.width)
				if !slices.Equal(list, want) || e != errno || (j != nil) != (h != nil) {
					t.Fatalf("5.6: %s: Open: %x, %d, want %x, %d", where, list, e, want, errno)
				}
				if h != nil {
					hands, journals = []*hand{hands[i], h}, []*journal.Journal{journals[i], j}
					told += len(list)
				}
			case 4, 5:
				if e, want := journals[i].Sync(), hands[i].Sync(); e != want {
					t.Fatalf("5.8: %s: Sync: %d, want %d", where, e, want)
				}
			case 6:
				u := g.update(hands[i].last+g.Below(3), 64*(1+g.Below(3)))
				if e, want := journals[i].Append(u), hands[i].Append(u); e != want {
					t.Fatalf("5.7: %s: Append(%x): %d, want %d", where, u, e, want)
				}
			default:
				u := g.update(hands[i].last+1, m.width)
				e, want := journals[i].Append(u), hands[i].Append(u)
				if e != want {
					t.Fatalf("5.7: %s: Append(%x): %d, want %d", where, u, e, want)
				}
				if e == api.ErrDown {
					lost++
				}
			}
			agree(t, where, d, m, journals, hands)
		}
	}
	if told < 1000 || lost < 1000 {
		t.Errorf("%d updates were told, %d Appends found no power", told, lost)
	}
}

// agree: the disk and the journals are as the model's.
func agree(t *testing.T, where string, d *disk.Disk, m *model, journals []*journal.Journal, hands []*hand) {
	t.Helper()
	for i, h := range hands {
		stands(t, where, journals[i], h.last, h.synced)
	}
	if d.Writes() != m.writes || d.Down() != m.off || d.Age() != m.age || !strings.HasSuffix(d.Image(), m.durable) || d.Used() != len(m.durable+m.unsynced) {
		t.Fatalf("%s: the disk is another: %d writes, want %d; image %x, want %x", where, d.Writes(), m.writes, d.Image(), m.durable)
	}
	want, good, errno := m.look()
	if list, at, e := journal.Look(d, 1, m.seq, m.width); !slices.Equal(list, want) || at != good || e != errno {
		t.Fatalf("5.5: %s: Look: %x, %d, %d, want %x, %d, %d", where, list, at, e, want, good, errno)
	}
}

// loose is a text whose bytes turn told makes others.
func loose(s string) (text string, turn func()) {
	b := []byte(s)
	return unsafe.String(unsafe.SliceData(b), len(b)), func() {
		for i := range b {
			b[i] ^= 0xff
		}
	}
}

func TestNothingHandedInIsKept(t *testing.T) {
	code, turn := loose(a8)
	u := put(1, 5, code)
	b, e := journal.Write(u)
	d := disk.New(1000)
	j := created(t, d, 0, 64)
	f := j.Append(u)
	turn()
	if want := framed(1, "\x01\x05"+a8); b != want || e != api.OK || f != api.OK || bytesOf(d, "j1") != want {
		t.Errorf("R4: Write and Append keep the code: %x, %x", b, bytesOf(d, "j1"))
	}
	b, turn = loose(framed(1, "\x01\x05"+a8))
	u, e = journal.Read(b, 64)
	turn()
	if u != put(1, 5, a8) || e != api.OK {
		t.Errorf("R4: Read keeps the bytes: %x, %d", u, e)
	}
}

func TestListsAreNewMemory(t *testing.T) {
	want := []api.Update{put(1, 5, a8), dead(2, 5), put(3, 6, a8)}
	d := with(t, "j1", file(want))
	turn := func(list []api.Update) {
		for i := range list[:cap(list)] {
			list[:cap(list)][i] = dead(99, 99)
		}
	}
	for range 3 {
		l, _, e := journal.Look(d, 1, 0, 64)
		j, k := opened(t, "5.12", d, 0, 64)
		if !slices.Equal(l, want) || !slices.Equal(k, want) || e != api.OK {
			t.Fatalf("5.12: %v, %v, want %v", l, k, want)
		}
		turn(l)
		if !slices.Equal(k, want) {
			t.Errorf("5.12: two lists share memory")
		}
		turn(k)
		stands(t, "5.12", j, 3, 0)
		if e := j.Append(put(4, 7, a8)); e != api.OK {
			t.Errorf("5.12: Append behind a list was changed: %d", e)
		}
		if bytesOf(d, "j1") != file(append(slices.Clone(want), put(4, 7, a8))) {
			t.Errorf("5.12: the file hangs on a list that was answered")
		}
		d.Cut("j1", len(file(want)))
	}
}

// TestToldUpdatesStay: what was told does not change with the file.
func TestToldUpdatesStay(t *testing.T) {
	want := []api.Update{put(1, 5, a8), put(2, 6, "12345678")}
	d := with(t, "j1", file(want))
	list, _, _ := journal.Look(d, 1, 0, 64)
	d.Cut("j1", 0)
	d.Append("j1", strings.Repeat("\xff", len(file(want))))
	if !slices.Equal(list, want) {
		t.Errorf("5.12: what was told has changed: %x", list)
	}
}

func TestExamples(t *testing.T) {
	b, _ := journal.Write(put(1, 5, a8))
	for _, c := range []struct {
		b string
		w int
		e api.Errno
	}{{b, 64, api.OK}, {b, 128, api.ErrCode}, {b, 63, api.ErrWidth}, {b + "x", 64, api.ErrLong}, {b[:len(b)-1], 64, api.ErrShort}} {
		if u, e := journal.Read(c.b, c.w); e != c.e || (u == put(1, 5, a8)) != (e == api.OK) {
			t.Errorf("5.3: Read(%x, %d): %v, %d, want %d", c.b, c.w, u, e, c.e)
		}
	}
	d := disk.New(10000)
	j := created(t, d, 0, 64)
	for _, c := range []struct {
		u api.Update
		e api.Errno
	}{{put(1, 5, a8), api.OK}, {dead(1, 5), api.ErrSeq}, {dead(3, 5), api.ErrSeq}, {dead(2, 5), api.OK}} {
		if e := j.Append(c.u); e != c.e {
			t.Errorf("5.7: Append(%v): %d, want %d", c.u, e, c.e)
		}
	}
	stands(t, "5.7", j, 2, 0)
	if e := j.Sync(); e != api.OK {
		t.Errorf("5.8: Sync: %d", e)
	}
	stands(t, "5.8", j, 2, 2)
	if e := j.Append(put(3, 6, a8)); e != api.OK {
		t.Errorf("5.7: Append: %d", e)
	}
	d.Crash([]api.Cut{{Name: "j1", Keep: len(b) / 2}})
	if e := j.Append(put(4, 6, a8)); e != api.ErrDown {
		t.Errorf("5.7: Append behind a crash: %d", e)
	}
	list := []api.Update{put(1, 5, a8), dead(2, 5)}
	looks(t, "5.5", d, 0, 64, list, len(file(list)), api.OK)
	looks(t, "5.5: the first number is 1, not 2", d, 1, 64, nil, 0, api.ErrCorrupt)
	unchanged(t, "5.6: nothing is cut", d, func() {
		if k, l, e := journal.Open(d, 1, 1, 64); k != nil || len(l) != 0 || e != api.ErrCorrupt {
			t.Errorf("5.6: Open behind another number: %v, %d", l, e)
		}
	})
	j, got := opened(t, "5.6", d, 0, 64)
	if !slices.Equal(got, list) || bytesOf(d, "j1") != file(list) {
		t.Errorf("5.6: Open: %v", got)
	}
	stands(t, "5.6", j, 2, 0)
	if l, at, e := journal.Look(d, 2, 0, 64); len(l) != 0 || at != 0 || e != api.ErrNone {
		t.Errorf("5.5: Look(2): %v, %d, %d", l, at, e)
	}
}

// TestNoJournal: calls on what nobody made end too.
func TestNoJournal(t *testing.T) {
	for _, j := range []*journal.Journal{nil, {}} {
		if e := j.Append(put(1, 5, a8)); e != api.ErrDown {
			t.Errorf("R1: Append: %d", e)
		}
		if e := j.Sync(); e != api.ErrDown {
			t.Errorf("R1: Sync: %d", e)
		}
		stands(t, "R1", j, 0, 0)
	}
	refuse(t, nil, 1, 0, 64, api.ErrDown)
	refuse(t, new(disk.Disk), 1, 0, 64, api.ErrDown)
}
