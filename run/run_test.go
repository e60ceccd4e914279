package run_test

import (
	"fmt"
	"math"
	"slices"
	"strings"
	"testing"
	"unsafe"

	"kindred/api"
	"kindred/block"
	"kindred/disk"
	"kindred/run"
)

// edges are numbers with which sums, shifts and conversions wrap.
var edges = []int{math.MinInt, math.MinInt + 1, math.MinInt + 64, -1 << 60, -1 << 40, -1<<32 + 64, -1 << 32, -64, -8, -2, -1, 0, 1, 2, 3, 7, 8, 9, 63, 64, 65, 127, 128, 129, 255, 256, 1<<31 - 1, 1 << 31, 1 << 32, 1<<32 + 8, 1<<32 + 64, 1<<40 - 1, 1 << 40, 1<<40 + 1, 1<<48 + 1, 1 << 60, 1<<60 + 1, 1 << 61, 1 << 62, math.MaxInt - 1, math.MaxInt}

// eight are the chapter's options for examples.
var eight = api.Opts{Width: 64, Chunks: 8, Mode: api.Chunked}

var treed = api.Opts{Width: 64, Mode: api.Treed}

// z is eight bytes, the last one c, the others 0.
func z(c byte) string { return "\x00\x00\x00\x00\x00\x00\x00" + string([]byte{c}) }

// three is the chapter's list.
func three() []api.Entry {
	return []api.Entry{{Code: z(0), ID: 4, Seq: 1}, {Code: z(0), ID: 9, Seq: 5, Dead: true}, {Code: z(1), ID: 2, Seq: 2}}
}

// valued are these entries with these values.
func valued(list []api.Entry, values ...int) []api.Entry {
	list = slices.Clone(list[:len(values)])
	for i, value := range values {
		list[i].Value = value
	}
	return list
}

// loose is a text whose bytes can be changed behind a call's back.
func loose(b []byte) string { return unsafe.String(&b[0], len(b)) }

func answers(t *testing.T, what string, got, want api.Errno) {
	t.Helper()
	if got != want {
		t.Fatalf("%s: %d, want %d", what, got, want)
	}
}

func tells(t *testing.T, what string, got, want []api.Entry) {
	t.Helper()
	if !slices.Equal(got, want) {
		t.Fatalf("%s: %d entries, %s, want %d, %s", what, len(got), told(got), len(want), told(want))
	}
}

// same: two disks cannot be told from each other.
func same(t *testing.T, where string, got, want *disk.Disk) {
	t.Helper()
	if a, b := seenOf(got), seenOf(want); a != b {
		t.Fatalf("%s: the disk is %s, want %s", where, told(a), told(b))
	}
}

// example is a disk with the chapter's run 3.
func example(t *testing.T, o api.Opts) *disk.Disk {
	t.Helper()
	d := disk.New(100000)
	answers(t, "14.2: Write", run.Write(d, 3, o, api.RunInfo{Hi: 5}, three()), api.OK)
	return d
}

// opened is the run of files that go; nothing is written for it.
func opened(t *testing.T, where string, d *disk.Disk, o api.Opts, info api.RunInfo) *run.Run {
	t.Helper()
	was := seenOf(d)
	r, e := run.Open(d, o, info)
	if r == nil || e != api.OK || r.Info() != info {
		t.Fatalf("14.4: %s: Open(%+v, %+v): %v, %d, Info %+v", where, o, info, r != nil, e, r.Info())
	}
	if seenOf(d) != was {
		t.Fatalf("14.4: %s: Open has written", where)
	}
	return r
}

// refused: Open answers this refusal and no run, and writes nothing.
func refused(t *testing.T, where string, d *disk.Disk, o api.Opts, info api.RunInfo, want api.Errno) {
	t.Helper()
	was := seenOf(d)
	r, e := run.Open(d, o, info)
	if r != nil || e != want {
		t.Fatalf("%s: Open(%+v, %+v): %v, %d, want %d", where, o, info, r != nil, e, want)
	}
	if seenOf(d) != was {
		t.Fatalf("14.4: %s: Open has written", where)
	}
}

// holds: a run tells just these words, by every table, value and pair.
func holds(t *testing.T, where string, r *run.Run, o api.Opts, list []api.Entry) {
	t.Helper()
	dead := 0
	for _, e := range list {
		if e.Dead {
			dead++
		}
	}
	if r.Dead() != dead {
		t.Fatalf("14.5: %s: Dead %d, want %d", where, r.Dead(), dead)
	}
	for j, p := range parts(o) {
		own := p.entries(list)
		tells(t, fmt.Sprintf("14.5: %s: All(%d)", where, j), r.All(j), own)
		for i, e := range own {
			for _, value := range []int{e.Value - 1, e.Value, e.Value + 1} {
				if value == e.Value && i > 0 && own[i-1].Value == value {
					continue // asked already
				}
				want := slices.DeleteFunc(slices.Clone(own), func(x api.Entry) bool { return x.Value != value })
				tells(t, fmt.Sprintf("14.5: %s: At(%d, %d)", where, j, value), r.At(j, value), want)
			}
		}
	}
	first := parts(o)[0].entries(list)
	for _, e := range first {
		for _, id := range []int{e.ID - 1, e.ID, e.ID + 1} {
			finds(t, where, r, first, e.Code, id)
		}
		finds(t, where, r, first, e.Code[1:], e.ID)
		finds(t, where, r, first, e.Code+"\x00", e.ID)
		finds(t, where, r, first, e.Code[:len(e.Code)-1]+"\x77", e.ID)
		finds(t, where, r, first, "\x77"+e.Code[1:], e.ID)
	}
	finds(t, where, r, first, "", 0)
	for _, j := range []int{math.MinInt, -1, len(parts(o)), len(parts(o)) + 1, 128, math.MaxInt} {
		if len(r.All(j)) != 0 || len(r.At(j, 0)) != 0 {
			t.Fatalf("14.5: %s: there is a table %d", where, j)
		}
	}
}

// finds: Find answers what stands in table 0.
func finds(t *testing.T, where string, r *run.Run, first []api.Entry, code string, id int) {
	t.Helper()
	var want api.Entry
	for _, e := range first {
		if e.Code == code && e.ID == id {
			want = e
		}
	}
	if got, ok := r.Find(code, id); got != want || ok != (want.Seq > 0) {
		t.Fatalf("14.5: %s: Find(%q, %d) = %s, %v, want %s", where, code, id, told(got), ok, told(want))
	}
}

func TestExamples(t *testing.T) {
	if got := run.Names(3, eight); !slices.Equal(got, []string{"r3.0", "r3.1", "r3.2", "r3.3", "r3.4", "r3.5", "r3.6", "r3.7"}) {
		t.Errorf("14.1: Names(3): %q", got)
	}
	if got := run.Names(3, treed); !slices.Equal(got, []string{"r3.0"}) {
		t.Errorf("14.1: Names(3) in Treed mode: %q", got)
	}
	if a, b := run.Names(0, eight), run.Names(3, api.Opts{Width: 64, Chunks: 9, Mode: 1}); len(a)+len(b) != 0 {
		t.Errorf("14.1: names that there are not: %q, %q", a, b)
	}
	d := example(t, eight)
	if d.Writes() != 24 || len(d.Names()) != 8 {
		t.Errorf("14.2: %d writes, files %q", d.Writes(), d.Names())
	}
	list := three()
	answers(t, "14.9: Write again", run.Write(d, 3, eight, api.RunInfo{Hi: 5}, list), api.ErrExists)
	answers(t, "14.2: Hi 4", run.Write(d, 4, eight, api.RunInfo{Hi: 4}, list), api.ErrSeq)
	answers(t, "14.2: turned round", run.Write(d, 4, eight, api.RunInfo{Hi: 5}, []api.Entry{list[0], list[2], list[1]}), api.ErrOrder)
	answers(t, "14.2: number 0", run.Write(d, 0, eight, api.RunInfo{Hi: 5}, list), api.ErrRange)
	answers(t, "14.2: Mode 3", run.Write(d, 4, api.Opts{Width: 64, Chunks: 8, Mode: 3}, api.RunInfo{Hi: 5}, list), api.ErrMode)
	r := opened(t, "the example", d, eight, api.RunInfo{Number: 3, Hi: 5, Count: 3})
	tells(t, "14.5: All(7)", r.All(7), valued(list, 0, 0, 1))
	tells(t, "14.5: At(7, 0)", r.At(7, 0), list[:2])
	tells(t, "14.5: At(0, 0)", r.At(0, 0), list)
	tells(t, "14.5: At(8, 0)", r.At(8, 0), nil)
	if e, ok := r.Find(z(0), 9); e != list[1] || !ok {
		t.Errorf("14.5: Find(z, 9): %s, %v", told(e), ok)
	}
	if e, ok := r.Find(z(0), 5); e != (api.Entry{}) || ok || r.Dead() != 1 {
		t.Errorf("14.5: Find(z, 5): %s, %v; Dead %d", told(e), ok, r.Dead())
	}
	for _, info := range []api.RunInfo{{Number: 3, Hi: 5, Count: 4}, {Number: 3, Hi: 6, Count: 3}, {Number: 4, Hi: 5, Count: 3}} {
		refused(t, "14.4: another run", d, eight, info, api.ErrCorrupt)
	}
	refused(t, "14.4: other chunks", d, api.Opts{Width: 64, Chunks: 7, Mode: 1}, api.RunInfo{Number: 3, Hi: 5, Count: 3}, api.ErrCorrupt)
	answers(t, "14.3: Delete", run.Delete(d, 3, eight), api.OK)
	answers(t, "14.3: Delete of nothing", run.Delete(d, 3, eight), api.OK)
	if len(d.Names()) != 0 || d.Writes() != 32 {
		t.Errorf("14.3: Delete leaves %q, %d writes", d.Names(), d.Writes())
	}
	short := disk.New(3*len(parts(eight)[7].bytes(7, eight, api.RunInfo{Hi: 5}, list)) + 5)
	answers(t, "14.9: room for three files", run.Write(short, 3, eight, api.RunInfo{Hi: 5}, list), api.ErrFull)
	if len(short.Names()) != 0 || short.Writes() != 14 || short.Used() != 0 {
		t.Errorf("14.9: a full disk keeps %q, %d writes", short.Names(), short.Writes())
	}
}

func TestNames(t *testing.T) {
	for _, number := range append([]int{10, 999, 1000}, edges...) {
		for _, o := range []api.Opts{eight, treed, {Width: 1024, Chunks: 128, Mode: 1}, {Width: 1024, Chunks: 31, Mode: 1}} {
			if got, want := run.Names(number, o), names(number, o); !slices.Equal(got, want) {
				t.Fatalf("14.1: Names(%d, %+v): %q, want %q", number, o, got, want)
			}
		}
	}
	if l := run.Names(1<<40, api.Opts{Width: 1024, Chunks: 128, Mode: 1}); l[127] != "r1099511627776.127" {
		t.Errorf("14.1: the longest name is %q", l[127])
	}
	l := run.Names(3, eight)
	l[0] = "x"
	if run.Names(3, eight)[0] != "r3.0" {
		t.Errorf("14.1: Names are not new memory")
	}
}

// options: all calls refuse these as the chapter says, or none does.
func options(t *testing.T, d *disk.Disk, number int, o api.Opts) {
	t.Helper()
	if got, want := run.Names(number, o), names(number, o); !slices.Equal(got, want) {
		t.Fatalf("14.1: Names(%d, %+v): %q, want %q", number, o, got, want)
	}
	want := refusal(number, o)
	answers(t, fmt.Sprintf("14.3: Delete(%d, %+v)", number, o), run.Delete(d, number, o), want)
	if want == api.OK {
		want = api.ErrCorrupt // there is no such file
	}
	if r, e := run.Open(d, o, api.RunInfo{Number: number}); r != nil || e != want {
		t.Fatalf("14.4: Open(%+v) of number %d: %v, %d, want %d", o, number, r != nil, e, want)
	}
	if want == api.ErrCorrupt {
		want = api.ErrRange // of the bounds
	}
	answers(t, fmt.Sprintf("14.2: Write(%d, %+v)", number, o), run.Write(d, number, o, api.RunInfo{Lo: 1}, nil), want)
}

func TestOptions(t *testing.T) {
	d := disk.New(1000)
	for w := -70; w <= 1100; w++ {
		for _, mode := range []int{-1, 0, 1, 2, 3} {
			for _, m := range []int{0, 1, 2, 8, 31, 32, 128} {
				options(t, d, 1, api.Opts{Width: w, Chunks: m, Mode: mode})
			}
		}
	}
	for w := 64; w <= 1024; w += 64 {
		for m := -3; m <= 140; m++ {
			options(t, d, 5, api.Opts{Width: w, Chunks: m, Mode: 1})
			options(t, d, 5, api.Opts{Width: w, Chunks: m, Mode: 2})
		}
	}
	for _, n := range edges {
		for _, o := range []api.Opts{{Width: n, Chunks: 8, Mode: 1}, {Width: 64, Chunks: n, Mode: 1}, {Width: 64, Chunks: n, Mode: 2}, {Width: 64, Chunks: 8, Mode: n}, {Width: 64, Mode: n}, {Width: n, Chunks: n, Mode: n}, eight, treed} {
			for _, number := range []int{1, 0, n} {
				options(t, d, number, o)
			}
		}
	}
	if d.Writes() != 0 {
		t.Errorf("14.2: what was refused has written")
	}
}

// writes: Write does to a disk what the chapter's words do to another one like it.
func writes(t *testing.T, where string, d, other *disk.Disk, number int, o api.Opts, info api.RunInfo, list []api.Entry) api.Errno {
	t.Helper()
	kept := slices.Clone(list)
	e := run.Write(d, number, o, info, list)
	if want := modelWrite(other, number, o, info, list); e != want {
		t.Fatalf("14.2: %s: Write(%d, %+v, %+v, %s): %d, want %d", where, number, o, info, told(list), e, want)
	}
	same(t, "14.2: "+where, d, other)
	if !slices.Equal(list, kept) {
		t.Fatalf("14.2: %s: the list was changed", where)
	}
	return e
}

// TestRefusalsOfWrite: every choice of faults, the first one in the chapter's order is told.
func TestRefusalsOfWrite(t *testing.T) {
	for faults := range 1 << 7 {
		number, o, info, list := 3, eight, api.RunInfo{Number: -7, Hi: 5, Count: -9}, three()
		d, other := disk.New(100000), disk.New(100000)
		if faults&1 != 0 {
			number = 0
		}
		if faults&2 != 0 {
			o.Mode = 0
		}
		if faults&4 != 0 {
			for _, x := range []*disk.Disk{d, other} {
				x.Arm(1, false)
				x.Create("a")
			}
		}
		if faults&8 != 0 {
			info.Lo = 9
		}
		if faults&16 != 0 {
			list[1].Code += "x"
		}
		if faults&32 != 0 {
			list[2].ID = -1
		}
		if faults&64 != 0 {
			d.Create("r3.5")
			other.Create("r3.5")
		}
		e := writes(t, fmt.Sprintf("faults %b", faults), d, other, number, o, info, list)
		want := api.OK
		for i, x := range []api.Errno{api.ErrRange, api.ErrMode, api.ErrDown, api.ErrRange, api.ErrCode, api.ErrID, api.ErrExists} {
			if want == api.OK && faults>>i&1 == 1 {
				want = x
			}
		}
		answers(t, fmt.Sprintf("14.2: faults %b", faults), e, want)
	}
}

func TestRefusalsOfLists(t *testing.T) {
	good := three()
	for _, n := range edges {
		for _, o := range []api.Opts{eight, treed} {
			for i := range 3 {
				for k := range 4 {
					list := slices.Clone(good)
					*[]*int{&list[i].Value, &list[i].ID, &list[i].Seq, new(int)}[k] = n
					writes(t, "an entry at its edges", disk.New(9999), disk.New(9999), 3, o, api.RunInfo{Hi: 5}, list)
				}
			}
			writes(t, "Lo", disk.New(9999), disk.New(9999), 3, o, api.RunInfo{Lo: n, Hi: 5}, good)
			writes(t, "Hi", disk.New(9999), disk.New(9999), 3, o, api.RunInfo{Hi: n}, good)
			writes(t, "Hi, without entries", disk.New(9999), disk.New(9999), 3, o, api.RunInfo{Lo: 5, Hi: n}, nil)
			if writes(t, "what is not looked at", disk.New(9999), disk.New(9999), 3, o, api.RunInfo{Number: n, Hi: 5, Count: n}, valued(good, n, -n, n/2)) != api.OK {
				t.Errorf("14.2: Number and Count %d, values of it: refused", n)
			}
		}
	}
	// That the list rises by code and id is asked for, whatever order the values would make of it.
	falling := []api.Entry{{Value: 1, Code: z(2), ID: 1, Seq: 1}, {Value: 2, Code: z(1), ID: 1, Seq: 2}}
	for _, list := range [][]api.Entry{falling, {good[1], good[0]}, {good[0], good[0]}, {good[0], good[1], good[1]}} {
		for _, o := range []api.Opts{eight, treed} {
			answers(t, "14.2: a list that does not rise", writes(t, "order", disk.New(9999), disk.New(9999), 3, o, api.RunInfo{Hi: 5}, list), api.ErrOrder)
		}
	}
}

func TestTooManyEntries(t *testing.T) {
	list := make([]api.Entry, 2097153)
	for i := range list {
		list[i] = api.Entry{Code: z(0), ID: i, Seq: 1}
	}
	d := disk.New(1 << 30)
	answers(t, "14.2: 2097153 entries", run.Write(d, 1, treed, api.RunInfo{Hi: 1}, list), api.ErrMany)
	answers(t, "14.2: and Lo above Hi", run.Write(d, 1, treed, api.RunInfo{Lo: 2, Hi: 1}, list), api.ErrRange)
	if d.Writes() != 0 {
		t.Errorf("14.2: too many entries: %d writes", d.Writes())
	}
}

// TestThereAndBack: made-up runs, a few on one disk, cut behind each Write.
func TestThereAndBack(t *testing.T) {
	g := from(14)
	for range 120 {
		d, other := disk.New(1<<22), disk.New(1<<22)
		type wrote struct {
			o    api.Opts
			info api.RunInfo
			list []api.Entry
		}
		var runs []wrote
		for k := range 1 + g.Below(3) {
			x := wrote{o: g.opts(), info: g.info()}
			x.list = g.list(x.o, x.info, g.Below(1<<g.Below(8)))
			x.info.Number, x.info.Count = 1+5*k, -1 // the Count is not looked at
			answers(t, "14.6: Write", writes(t, "made up", d, other, x.info.Number, x.o, x.info, x.list), api.OK)
			if d.Writes() != other.Writes() {
				t.Fatalf("14.2: %d writes, want %d", d.Writes(), other.Writes())
			}
			x.info.Count = len(x.list)
			runs = append(runs, x)
			d.Crash(nil)
			other.Crash([]api.Cut{{Name: "r1.0", Keep: 9}})
			same(t, "14.6: behind a power cut", d, other)
		}
		for _, x := range runs {
			holds(t, "made up", opened(t, "made up", d, x.o, x.info), x.o, x.list)
		}
		for _, x := range runs {
			answers(t, "14.3: Delete", run.Delete(d, x.info.Number, x.o), modelDelete(other, x.info.Number, x.o))
			same(t, "14.3: Delete", d, other)
			refused(t, "14.4: behind Delete", d, x.o, x.info, api.ErrCorrupt)
		}
		if len(d.Names()) != 0 {
			t.Fatalf("14.3: %q are left", d.Names())
		}
	}
}

// TestEveryWidth: each width with its fewest and its most chunks, and in Treed mode.
func TestEveryWidth(t *testing.T) {
	g := from(15)
	for w := 64; w <= 1024; w += 64 {
		for _, o := range []api.Opts{{Width: w, Chunks: w / 32, Mode: 1}, {Width: w, Chunks: w / 8, Mode: 1}, {Width: w, Chunks: w/32 + 1, Mode: 1}, {Width: w, Mode: 2}} {
			info := api.RunInfo{Number: w, Lo: w, Hi: w + 9}
			list := g.list(o, info, 12)
			d, other := disk.New(1<<20), disk.New(1<<20)
			answers(t, "14.2: a width", writes(t, "a width", d, other, w, o, info, list), api.OK)
			info.Count = len(list)
			holds(t, "a width", opened(t, "a width", d, o, info), o, list)
		}
	}
}

func TestNoEntries(t *testing.T) {
	for _, o := range []api.Opts{eight, treed} {
		d, other := disk.New(9999), disk.New(9999)
		answers(t, "14.2: no entries", writes(t, "no entries", d, other, 1<<40, o, api.RunInfo{Lo: 4, Hi: 4}, nil), api.OK)
		holds(t, "no entries", opened(t, "no entries", d, o, api.RunInfo{Number: 1 << 40, Lo: 4, Hi: 4}), o, nil)
	}
}

// TestManyEntries: tables of several blocks, with values that stand in more than one.
func TestManyEntries(t *testing.T) {
	g := from(16)
	for _, o := range []api.Opts{{Width: 64, Chunks: 7, Mode: 1}, {Width: 128, Chunks: 4, Mode: 1}, treed} {
		info := api.RunInfo{Number: 2, Hi: 5000}
		list := g.list(o, info, 900)
		d, other := disk.New(1<<22), disk.New(1<<22)
		answers(t, "14.2: many", writes(t, "many", d, other, 2, o, info, list), api.OK)
		info.Count = len(list)
		holds(t, "many", opened(t, "many", d, o, info), o, list)
	}
}

// crowded is a disk on which other files stand: nobody's, another run's, one of the names that Write wants.
func crowded(capacity int, taken ...string) *disk.Disk {
	d := disk.New(capacity)
	put(d, "notes", "some words")
	put(d, "r33.1", "another run's")
	put(d, "r3.8", "beyond the last table")
	put(d, "r3", "")
	for _, name := range taken {
		put(d, name, "taken "+name)
	}
	return d
}

// TestPowerCuts: the power goes at each write of Write and of Delete, with and without the step done, and whatever of the unsynced bytes is left.
func TestPowerCuts(t *testing.T) {
	info := api.RunInfo{Number: 3, Hi: 5, Count: 3}
	for _, o := range []api.Opts{{Width: 64, Chunks: 3, Mode: 1}, treed} {
		last := 3 * len(parts(o))
		for n := 1; n <= last+1; n++ {
			for _, done := range []bool{false, true} {
				for _, keep := range []int{0, 20, 8888, 9999} {
					where := fmt.Sprintf("Write cut at %d, %v, %d bytes kept", n, done, keep)
					d, other := crowded(9999), crowded(9999)
					for _, x := range []*disk.Disk{d, other} {
						x.Arm(n, done)
					}
					want := api.ErrDown
					if n > last {
						want = api.OK
					}
					answers(t, "14.2: "+where, writes(t, where, d, other, 3, o, info, three()), want)
					for _, x := range []*disk.Disk{d, other} {
						x.Crash([]api.Cut{{Name: name(3, (n-1)/3), Keep: keep, Spoil: byte(keep % 2)}})
					}
					same(t, "14.9: "+where, d, other)
					if n > last || n >= last-1 && keep == 8888 { // from the last Append on all bytes may survive
						holds(t, where, opened(t, where, d, o, info), o, three())
					} else {
						refused(t, "14.8: "+where, d, o, info, api.ErrCorrupt)
					}
				}
			}
		}
	}
}

// TestDeleteCut: the power goes at each deletion.
func TestDeleteCut(t *testing.T) {
	for n := 1; n <= 9; n++ {
		for _, done := range []bool{false, true} {
			where := fmt.Sprintf("14.3: Delete cut at %d, %v", n, done)
			d, other := example(t, eight), example(t, eight)
			for _, x := range []*disk.Disk{d, other} {
				x.Delete("r3.1") // a name that there is not is let go, and is no write
				x.Arm(n, done)
			}
			answers(t, where, run.Delete(d, 3, eight), modelDelete(other, 3, eight))
			same(t, where, d, other)
			if d.Down() != (n <= 7) {
				t.Fatalf("%s: the power is off: %v", where, d.Down())
			}
			for _, x := range []*disk.Disk{d, other} {
				x.Crash(nil)
			}
			same(t, where, d, other)
		}
	}
}

// TestPowerOff: what does not ask the disk is told ahead of ErrDown.
func TestPowerOff(t *testing.T) {
	d := example(t, eight)
	r := opened(t, "ahead of the cut", d, eight, api.RunInfo{Number: 3, Hi: 5, Count: 3})
	d.Arm(1, false)
	d.Create("x")
	writes := d.Writes()
	answers(t, "14.2: Write without power", run.Write(d, 4, eight, api.RunInfo{Lo: 9}, three()), api.ErrDown)
	answers(t, "14.2: and with number 0", run.Write(d, 0, api.Opts{}, api.RunInfo{}, nil), api.ErrRange)
	answers(t, "14.2: and without a width", run.Write(d, 1, api.Opts{}, api.RunInfo{}, nil), api.ErrWidth)
	answers(t, "14.3: Delete without power", run.Delete(d, 3, eight), api.ErrDown)
	answers(t, "14.3: and with number 0", run.Delete(d, 0, api.Opts{}), api.ErrRange)
	answers(t, "14.3: and without a width", run.Delete(d, 1, api.Opts{}), api.ErrWidth)
	refused(t, "14.4: without power", d, eight, api.RunInfo{Number: 3, Hi: 5, Count: 3}, api.ErrDown)
	refused(t, "14.4: and with number 0", d, api.Opts{}, api.RunInfo{}, api.ErrRange)
	refused(t, "14.4: and without a mode", d, api.Opts{Width: 64}, api.RunInfo{Number: 9}, api.ErrMode)
	if d.Writes() != writes || len(run.Names(3, eight)) != 8 {
		t.Errorf("14.2: without power something was written")
	}
	holds(t, "without power", r, eight, three())
	d.Crash(nil)
	answers(t, "14.3: Delete", run.Delete(d, 3, eight), api.OK)
	put(d, "r3.0", "something else")
	holds(t, "whose files are gone", r, eight, three())
}

// TestFullDisk: every room from none to enough, and the power going while what was made is taken away.
func TestFullDisk(t *testing.T) {
	info := api.RunInfo{Number: 3, Hi: 5, Count: 3}
	for _, o := range []api.Opts{{Width: 64, Chunks: 3, Mode: 1}, treed} {
		whole := disk.New(9999)
		answers(t, "14.2: Write", run.Write(whole, 3, o, info, three()), api.OK)
		for room := 0; room <= whole.Used()+1; room++ {
			for n := range 20 {
				d, other := crowded(44+room), crowded(44+room)
				was := d.Image()
				for _, x := range []*disk.Disk{d, other} {
					x.Arm(n, n%2 == 0)
				}
				e := writes(t, "a full disk", d, other, 3, o, info, three())
				for _, x := range []*disk.Disk{d, other} {
					x.Crash([]api.Cut{{Name: "r3.0", Keep: 3}, {Name: "r3.1", Keep: 99}})
				}
				same(t, "14.9: a full disk", d, other)
				if n == 0 && ((e == api.OK) != (room >= whole.Used()) || e != api.OK && (e != api.ErrFull || d.Image() != was)) {
					t.Fatalf("14.9: room for %d of %d bytes: %d, files %q", room, whole.Used(), e, d.Names())
				}
			}
		}
	}
}

// TestNamesInTheWay: a file of each name was there, and one behind it.
func TestNamesInTheWay(t *testing.T) {
	info := api.RunInfo{Number: 3, Hi: 5, Count: 3}
	for j := range 8 {
		for k := j; k < 8; k++ {
			for n := range j + 2 {
				d, other := crowded(9999, name(3, j), name(3, k)), crowded(9999, name(3, j), name(3, k))
				for _, x := range []*disk.Disk{d, other} {
					x.Arm(3*j+n, false) // at the last write ahead of it, or while what was made is taken away
				}
				writes(t, "a name in the way", d, other, 3, eight, info, three())
				for _, x := range []*disk.Disk{d, other} {
					x.Crash(nil)
				}
				same(t, "14.9: a name in the way", d, other)
			}
			d := crowded(9999, name(3, j), name(3, k))
			was := d.Image()
			if e := run.Write(d, 3, eight, info, three()); e != api.ErrExists || d.Image() != was {
				t.Fatalf("14.9: %s and %s were there: %d, %q", name(3, j), name(3, k), e, d.Names())
			}
		}
	}
}

// TestManyFiles: the disk takes a few more files alone.
func TestManyFiles(t *testing.T) {
	for free := range 10 {
		d, other := disk.New(100000), disk.New(100000)
		for i := range 4096 - free {
			d.Create(fmt.Sprint("f", i))
			other.Create(fmt.Sprint("f", i))
		}
		e := run.Write(d, 3, eight, api.RunInfo{Hi: 5}, three())
		if want := modelWrite(other, 3, eight, api.RunInfo{Hi: 5}, three()); e != want || (e == api.ErrMany) != (free < 8) {
			t.Fatalf("14.2: %d more files: %d, want %d", free, e, want)
		}
		if d.Image() != other.Image() || d.Writes() != other.Writes() {
			t.Fatalf("14.9: %d more files: %d are there, %d writes, want %d", free, len(d.Names()), d.Writes(), other.Writes())
		}
	}
}

// TestEveryByte: one byte of a file changed, a byte behind it, an end cut off, a file missing.
func TestEveryByte(t *testing.T) {
	for _, o := range []api.Opts{{Width: 64, Chunks: 2, Mode: 1}, treed} {
		info := api.RunInfo{Number: 3, Hi: 5, Count: 3}
		d := example(t, o)
		for _, name := range d.Names() {
			b := bytesOf(d, name)
			for i := range len(b) {
				for _, bit := range []byte{1, 2, 4, 8, 16, 32, 64, 128, 255} {
					changed := []byte(b)
					changed[i] ^= bit
					put(d, name, string(changed))
					refused(t, fmt.Sprintf("14.8: byte %d of %s changed", i, name), d, o, info, api.ErrCorrupt)
				}
				put(d, name, b[:i])
				refused(t, fmt.Sprintf("14.8: %s cut to %d bytes", name, i), d, o, info, api.ErrCorrupt)
			}
			for c := range 256 {
				put(d, name, b+string([]byte{byte(c)}))
				refused(t, fmt.Sprintf("14.8: %d behind %s", c, name), d, o, info, api.ErrCorrupt)
			}
			put(d, name, b+b)
			refused(t, "14.8: a file twice", d, o, info, api.ErrCorrupt)
			d.Delete(name)
			refused(t, "14.8: a file missing", d, o, info, api.ErrCorrupt)
			put(d, name, b)
		}
		opened(t, "all as it was", d, o, info)
	}
}

// TestOtherHeads: files that are right by themselves, and do not go with what Open is handed.
func TestOtherHeads(t *testing.T) {
	info := api.RunInfo{Number: 3, Lo: 2, Hi: 7, Count: 3}
	list := []api.Entry{{Code: z(0), ID: 4, Seq: 3}, {Code: z(0), ID: 9, Seq: 5, Dead: true}, {Code: z(1), ID: 2, Seq: 6}}
	for _, o := range []api.Opts{eight, treed} {
		d := disk.New(9999)
		answers(t, "14.2: Write", run.Write(d, 3, o, info, list), api.OK)
		opened(t, "as it was written", d, o, info)
		for i := range 4 {
			for _, by := range append([]int{-1, 1}, edges...) {
				other := info
				*[]*int{&other.Number, &other.Lo, &other.Hi, &other.Count}[i] += by
				_, want := modelOpen(d, o, other)
				if by == 0 {
					answers(t, "14.4: as it was written", want, api.OK)
					continue
				}
				refused(t, "14.4: another info", d, o, other, want)
			}
		}
		for j, p := range parts(o) {
			right := api.Head{Width: 64, Table: j, Bits: p.bits, Lo: 2, Hi: 7}
			for _, h := range []api.Head{{Width: 64, Table: j + 1, Bits: p.bits, Lo: 2, Hi: 7}, {Width: 64, Table: j, Bits: p.bits + 1, Lo: 2, Hi: 7}, {Width: 64, Table: j, Bits: p.bits, Lo: 1, Hi: 7}, {Width: 64, Table: j, Bits: p.bits, Lo: 2, Hi: 8}} {
				b, e := block.Build(h, p.entries(list))
				answers(t, "6.1: Build", e, api.OK)
				put(d, name(3, j), b)
				refused(t, fmt.Sprintf("14.4: a file with the head %+v", h), d, o, info, api.ErrCorrupt)
			}
			b, _ := block.Build(right, p.entries(list))
			put(d, name(3, j), b)
			opened(t, "the right head", d, o, info)
		}
		// A file of longer codes, with the rest of the head as it should be.
		long := slices.Clone(list)
		for i := range long {
			long[i].Code += z(0)
		}
		for j, p := range parts(o) {
			b, e := block.Build(api.Head{Width: 128, Table: j, Bits: p.bits, Lo: 2, Hi: 7}, p.entries(long))
			answers(t, "6.1: Build", e, api.OK)
			put(d, name(3, j), b)
		}
		refused(t, "14.4: another width", d, o, info, api.ErrCorrupt)
	}
}

// TestOtherWords: in the place of each table a file that is right by itself, with other words or other values.
func TestOtherWords(t *testing.T) {
	info := api.RunInfo{Number: 3, Hi: 9, Count: 3}
	list := three()
	for _, o := range []api.Opts{eight, {Width: 64, Chunks: 2, Mode: 1}} {
		for j, p := range parts(o) {
			d := disk.New(9999)
			answers(t, "14.2: Write", run.Write(d, 3, o, info, list), api.OK)
			for i := range list {
				for k, change := range []func(e *api.Entry){
					func(e *api.Entry) { e.Dead = !e.Dead },
					func(e *api.Entry) { e.Seq++ },
					func(e *api.Entry) { e.ID++ },
					func(e *api.Entry) { e.Code = "\x01" + e.Code[1:] },
					func(e *api.Entry) { e.Code = e.Code[:7] + "\x02" },
				} {
					words := slices.Clone(list)
					change(&words[i])
					put(d, name(3, j), p.bytes(j, o, info, words))
					refused(t, fmt.Sprintf("14.8: table %d, entry %d, change %d", j, i, k), d, o, info, api.ErrCorrupt)
				}
				for _, by := range []int{-1, 1, 2, 128} {
					words := p.entries(list)
					words[i].Value += by
					b, e := block.Build(api.Head{Width: 64, Table: j, Bits: p.bits, Hi: 9}, words)
					if e == api.OK {
						put(d, name(3, j), b)
						refused(t, fmt.Sprintf("14.4: table %d, entry %d has another value", j, i), d, o, info, api.ErrCorrupt)
					}
				}
			}
			for k := range parts(o) {
				put(d, name(3, j), parts(o)[k].bytes(k, o, info, list))
				if _, want := modelOpen(d, o, info); want != api.OK {
					refused(t, fmt.Sprintf("14.4: table %d in the place of %d", k, j), d, o, info, want)
				} else if k != j {
					t.Fatalf("14.4: the model takes table %d for %d", k, j)
				}
			}
		}
	}
}

// TestPairTwice: a pair stands with two values in a table, so that the file is right by itself and has as many entries as the others.
func TestPairTwice(t *testing.T) {
	info := api.RunInfo{Number: 3, Hi: 9, Count: 2}
	for j, p := range parts(eight) {
		for _, first := range []bool{false, true} {
			d := disk.New(9999)
			list := []api.Entry{{Code: z(0), ID: 4, Seq: 1}, {Code: z(0), ID: 5, Seq: 1}}
			answers(t, "14.2: Write", run.Write(d, 3, eight, info, list), api.OK)
			twice := []api.Entry{{Code: z(0), ID: 4, Seq: 1}, {Value: 1, Code: z(0), ID: 4, Seq: 1}}
			b, e := block.Build(api.Head{Width: 64, Table: j, Bits: p.bits, Hi: 9}, twice)
			answers(t, "6.1: Build", e, api.OK)
			put(d, name(3, j), b)
			if first {
				b, _ = block.Build(api.Head{Width: 64, Bits: 8, Hi: 9}, twice)
				put(d, name(3, 0), b)
			}
			refused(t, "14.4: a pair twice", d, eight, info, api.ErrCorrupt)
		}
	}
}

// TestTreedValues: in Treed mode each value is 0.
func TestTreedValues(t *testing.T) {
	d := disk.New(9999)
	info := api.RunInfo{Number: 3, Hi: 5, Count: 3}
	for values := range 8 {
		list := valued(three(), values>>2&1, values>>1&1, values&1)
		b, e := block.Build(api.Head{Width: 64, Bits: 1, Hi: 5}, list)
		if e != api.OK {
			continue
		}
		put(d, "r3.0", b)
		if values == 0 {
			opened(t, "values of 0", d, treed, info)
		} else {
			refused(t, fmt.Sprintf("14.4: values %03b", values), d, treed, info, api.ErrCorrupt)
		}
	}
}

// TestMixedFiles: files of several runs, tables and heads stand in each other's places: Open answers what the chapter says of them.
func TestMixedFiles(t *testing.T) {
	g := from(17)
	taken := 0
	for range 400 {
		o := api.Opts{Width: 64, Chunks: 2 + g.Below(3), Mode: 1}
		info := api.RunInfo{Number: 1 + g.Below(2), Hi: 9}
		list := g.list(o, info, 5+g.Below(6))
		info.Count = len(list)
		d := disk.New(99999)
		for number := 1; number <= 2; number++ {
			answers(t, "14.2: Write", run.Write(d, number, o, info, list), api.OK)
			i := g.Below(len(list)) // the codes are few, but there are two at the least
			switch g.Below(6) {
			case 0:
				list[i].Dead = !list[i].Dead
			case 1:
				list[i].Seq = 1 + g.Below(9)
			case 2:
				list = append(list[:i:i], list[i+1:]...)
			case 3:
				o.Chunks = 2 + g.Below(3)
			}
		}
		for range g.Below(3) {
			files := d.Names()
			put(d, files[g.Below(len(files))], bytesOf(d, files[g.Below(len(files))]))
		}
		all, want := modelOpen(d, o, info)
		if want != api.OK {
			refused(t, "14.4: mixed files", d, o, info, want)
			continue
		}
		taken++
		holds(t, "mixed files", opened(t, "mixed files", d, o, info), o, all[0])
	}
	if taken < 40 || taken > 360 {
		t.Errorf("14.4: of 400 disks with mixed files %d have a run", taken)
	}
}

// TestNewMemory: what is answered is the caller's, what is handed in stays as it is and is not kept.
func TestNewMemory(t *testing.T) {
	code := []byte(z(0))
	list := make([]api.Entry, 0, 9)
	list = append(list, api.Entry{Value: 77, Code: loose(code), ID: 4, Seq: 1}, api.Entry{Value: 5, Code: z(1), ID: 2, Seq: 2, Dead: true})
	spare := list[:9]
	for i := 2; i < 9; i++ {
		spare[i] = api.Entry{Value: i, ID: i}
	}
	was := slices.Clone(spare)
	d := disk.New(9999)
	answers(t, "14.2: Write", run.Write(d, 3, eight, api.RunInfo{Hi: 5}, list), api.OK)
	answers(t, "14.2: Write", run.Write(d, 3, eight, api.RunInfo{Hi: 5}, list), api.ErrExists)
	tells(t, "R4: the list that was handed in", spare, was)
	code[7] = 9
	info := api.RunInfo{Number: 3, Hi: 5, Count: 2}
	r := opened(t, "new memory", d, eight, info)
	want := []api.Entry{{Code: z(0), ID: 4, Seq: 1}, {Code: z(1), ID: 2, Seq: 2, Dead: true}}
	holds(t, "new memory", r, eight, want)
	for j := range 8 {
		for _, l := range [][]api.Entry{r.All(j), r.At(j, 0)} {
			for i := range l {
				l[i] = api.Entry{}
			}
			_ = append(l, api.Entry{})
		}
	}
	code[7] = 0
	if e, ok := r.Find(loose(code), 4); !ok || e.Code != z(0) {
		t.Errorf("14.5: Find: %s, %v", told(e), ok)
	} else if code[7] = 9; e.Code != z(0) {
		t.Errorf("R4: Find answers the text that it was handed")
	}
	holds(t, "behind lists that were changed", r, eight, want)
}

// TestRunsApart: two runs of one disk, and one opened twice, know nothing of each other.
func TestRunsApart(t *testing.T) {
	d := example(t, eight)
	other := []api.Entry{{Code: z(7), ID: 1, Seq: 9}}
	answers(t, "14.2: Write", run.Write(d, 5, eight, api.RunInfo{Lo: 5, Hi: 9}, other), api.OK)
	a := opened(t, "the first", d, eight, api.RunInfo{Number: 3, Hi: 5, Count: 3})
	b := opened(t, "the second", d, eight, api.RunInfo{Number: 5, Lo: 5, Hi: 9, Count: 1})
	c := opened(t, "the first again", d, eight, api.RunInfo{Number: 3, Hi: 5, Count: 3})
	answers(t, "14.3: Delete", run.Delete(d, 3, eight), api.OK)
	if !slices.Equal(d.Names(), run.Names(5, eight)) {
		t.Errorf("14.3: Delete(3) leaves %q", d.Names())
	}
	holds(t, "the first", a, eight, three())
	holds(t, "the second", b, eight, other)
	holds(t, "the first again", c, eight, three())
}

// TestDeleteOther: options of fewer tables leave the rest.
func TestDeleteOther(t *testing.T) {
	d := example(t, eight)
	put(d, "notes", "x")
	answers(t, "14.3: Delete", run.Delete(d, 3, treed), api.OK)
	answers(t, "14.3: Delete", run.Delete(d, 3, api.Opts{Width: 64, Chunks: 3, Mode: 1}), api.OK)
	answers(t, "14.3: Delete", run.Delete(d, 4, eight), api.OK)
	if got := strings.Join(d.Names(), " "); got != "notes r3.3 r3.4 r3.5 r3.6 r3.7" {
		t.Errorf("14.3: %s are left", got)
	}
}

// TestNoRun: a run that was not opened answers that there is nothing.
func TestNoRun(t *testing.T) {
	for _, r := range []*run.Run{nil, {}} {
		e, ok := r.Find(z(0), 4)
		if r.Info() != (api.RunInfo{}) || len(r.At(0, 0)) != 0 || len(r.All(0)) != 0 || e != (api.Entry{}) || ok || r.Dead() != 0 {
			t.Errorf("R1: no run tells something")
		}
	}
}

// TestEdgesOfQuestions: no value, code or id makes a question panic.
func TestEdgesOfQuestions(t *testing.T) {
	for _, o := range []api.Opts{eight, treed, {Width: 64, Chunks: 2, Mode: 1}} {
		d := example(t, o)
		r := opened(t, "edges", d, o, api.RunInfo{Number: 3, Hi: 5, Count: 3})
		first := parts(o)[0].entries(three())
		for _, n := range edges {
			for _, j := range edges {
				var want []api.Entry
				if j >= 0 && j < len(parts(o)) {
					want = slices.DeleteFunc(parts(o)[j].entries(three()), func(e api.Entry) bool { return e.Value != n })
				}
				tells(t, fmt.Sprintf("14.5: At(%d, %d)", j, n), r.At(j, n), want)
			}
			for _, code := range []string{"", "\x00", z(0)[:7], z(0), z(0) + "\x00", z(1), z(2), strings.Repeat("\xff", 8), strings.Repeat("\x00", 2000)} {
				finds(t, "edges", r, first, code, n)
			}
		}
	}
}
