package block_test

import (
	"math"
	"slices"
	"strings"
	"testing"
	"unsafe"

	"kindred/api"
	"kindred/block"
)

// edges are numbers with which sums, shifts and conversions wrap.
var edges = []int{math.MinInt, math.MinInt + 1, math.MinInt + 64, -1 << 60, -1 << 48, -1<<32 + 64, -1 << 32, -64, -2, -1, 0, 1, 2, 7, 8, 31, 32, 33, 63, 64, 65, 127, 128, 129, 255, 256, 257, 1<<31 - 1, 1 << 31, 1<<32 - 1, 1 << 32, 1<<32 + 1, 1<<32 + 64, 1<<48 - 1, 1 << 48, 1<<48 + 1, 1<<60 - 1, 1 << 60, 1<<60 + 1, 1 << 61, 1<<61 + 64, 1 << 62, math.MaxInt - 1, math.MaxInt}

// eight is the chapter's head for examples.
var eight = api.Head{Width: 64, Bits: 8, Hi: 9}

// at is an entry whose code is eight times a letter.
func at(value int, letter string, id, seq int) api.Entry {
	return api.Entry{Value: value, Code: strings.Repeat(letter, 8), ID: id, Seq: seq}
}

// row are n entries of one value and one code, of 15 or 16 bytes.
func row(n, value int) []api.Entry {
	var list []api.Entry
	for i := range n {
		list = append(list, at(value, "a", i, 1))
	}
	return list
}

// builds: Build answers what 6.1 and 6.2 say.
func builds(t *testing.T, where string, h api.Head, list []api.Entry) string {
	t.Helper()
	b, e := block.Build(h, list)
	if want := refusal(h, list); e != want || want != api.OK && b != "" {
		t.Fatalf("6.1: %s: Build(%+v, %d entries) answers %d bytes, %d, want %d", where, h, len(list), len(b), e, want)
	}
	if e != api.OK {
		return b
	}
	if want := text(framesOf(h, list)); b != want {
		n := alike(b, want)
		t.Fatalf("6.2: %s: Build(%+v, %d entries): of %d bytes, want %d, those from %d on are %.100x, want %.100x", where, h, len(list), len(b), len(want), n, b[n:], want[n:])
	}
	return b
}

// alike is how many bytes two texts have alike from the beginning on.
func alike(a, b string) int {
	n := 0
	for n < len(a) && n < len(b) && a[n] == b[n] {
		n++
	}
	return n
}

// opened is the file of bytes that go.
func opened(t *testing.T, where, b string) *block.File {
	t.Helper()
	f, e := block.Open(b)
	if e != api.OK || f == nil {
		t.Fatalf("6.3: %s: Open: %v, %d", where, f != nil, e)
	}
	return f
}

// corrupt: Open refuses these bytes.
func corrupt(t *testing.T, where, b string) {
	t.Helper()
	if f, e := block.Open(b); f != nil || e != api.ErrCorrupt {
		t.Fatalf("%s: Open of %d bytes: %v, %d, want %d", where, len(b), f != nil, e, api.ErrCorrupt)
	}
}

// tells: the file has this head and these entries, and is built of them again.
func tells(t *testing.T, where, b string, h api.Head, list []api.Entry) *block.File {
	t.Helper()
	f := opened(t, where, b)
	h.Count = len(list)
	if f.Head() != h || !slices.Equal(f.All(), list) || f.Reads() != 0 {
		t.Fatalf("6.4: %s: %+v and %d entries, want %+v and %d; Reads %d", where, f.Head(), len(f.All()), h, len(list), f.Reads())
	}
	if again, e := block.Build(f.Head(), f.All()); again != b || e != api.OK {
		t.Fatalf("6.6: %s: built again it has %d bytes, %d, want %d", where, len(again), e, len(b))
	}
	return f
}

func TestRefusalsOfHeads(t *testing.T) {
	lists := [][]api.Entry{nil, {at(1, "a", 5, 3)}, {{Value: -1, Code: "x", ID: -1}}}
	for _, list := range lists {
		for _, n := range edges {
			for _, h := range []api.Head{eight, {Width: 63, Bits: 8, Hi: 9}, {Width: 64, Bits: 33, Hi: 9}, {Width: 64, Bits: 8, Lo: 3, Hi: 2}, {Width: 64, Table: 128, Bits: 8, Hi: 9}} {
				for i := range 6 {
					g := h
					*[]*int{&g.Width, &g.Table, &g.Bits, &g.Lo, &g.Hi, &g.Count}[i] = n
					builds(t, "a head at its edges", g, list)
				}
			}
			for _, m := range edges {
				builds(t, "Lo and Hi", api.Head{Width: 64, Bits: 8, Lo: n, Hi: m}, list)
			}
		}
		for n := -200; n <= 1200; n++ {
			builds(t, "a width", api.Head{Width: n, Bits: 8, Hi: 9}, list)
			builds(t, "a table", api.Head{Width: 64, Table: n, Bits: 8, Hi: 9}, list)
			builds(t, "bits", api.Head{Width: 64, Bits: n, Hi: 9}, list)
		}
	}
}

func TestRefusalsOfEntries(t *testing.T) {
	good := at(1, "a", 5, 3)
	codes := []string{"", "aaaaaaa", "aaaaaaaa", "aaaaaaaaa", strings.Repeat("a", 16), strings.Repeat("a", 128)}
	for _, n := range edges {
		for _, m := range edges {
			for i, e := range []api.Entry{{Value: n, Code: good.Code, ID: m, Seq: 3}, {Value: n, Code: good.Code, ID: 5, Seq: m}, {Value: 1, Code: good.Code, ID: n, Seq: m}} {
				builds(t, "one entry", eight, []api.Entry{e})
				builds(t, "behind one that goes", eight, []api.Entry{{Code: good.Code, Seq: 1}, e})
				builds(t, "with Lo", api.Head{Width: 64, Bits: 32, Lo: 2, Hi: 1 << 60}, []api.Entry{e})
				e.Code = codes[i]
				builds(t, "with another code", eight, []api.Entry{e})
			}
		}
	}
	for _, code := range codes {
		for _, w := range []int{64, 128, 1024} {
			builds(t, "a code", api.Head{Width: w, Bits: 8, Hi: 9}, []api.Entry{{Value: 1, Code: code, Seq: 3}})
		}
	}
	for n := 1; n <= 32; n++ {
		for _, value := range []int{-1, 0, 1<<n - 1, 1 << n, 1<<n + 1} {
			builds(t, "a value and its bits", api.Head{Width: 64, Bits: n, Hi: 9}, []api.Entry{{Value: value, Code: good.Code, Seq: 3}})
		}
	}
	for lo := range 4 {
		for hi := lo; hi < 4; hi++ {
			for seq := range 6 {
				builds(t, "a number of an update", api.Head{Width: 64, Bits: 1, Lo: lo, Hi: hi}, []api.Entry{{Code: good.Code, Seq: seq}})
			}
		}
	}
}

// TestOrderOfRefusals: an entry with every choice of faults, alone and among others with a fault.
func TestOrderOfRefusals(t *testing.T) {
	var faulty []api.Entry
	for faults := range 32 {
		e := at(200, "b", 7, 3)
		if faults&1 != 0 {
			e.Code += "b"
		}
		if faults&2 != 0 {
			e.Value = 256
		}
		if faults&4 != 0 {
			e.ID = -1
		}
		if faults&8 != 0 {
			e.Seq = 10
		}
		if faults&16 != 0 {
			e.Value -= 100
		}
		faulty = append(faulty, e)
	}
	ahead := at(150, "b", 7, 3)
	for _, e := range faulty {
		builds(t, "faults", eight, []api.Entry{ahead, e})
		for _, f := range faulty {
			builds(t, "the first faulty entry counts", eight, []api.Entry{ahead, e, f})
		}
	}
}

func TestOrder(t *testing.T) {
	var list []api.Entry
	for _, value := range []int{0, 1, 255} {
		for _, code := range []string{"\x00", "\x01", "\x7f", "\x80", "\xff"} {
			for _, id := range []int{0, 1, 127, 128, 1 << 48} {
				list = append(list, at(value, code, id, 1+id%9))
			}
		}
	}
	builds(t, "all in order", eight, list)
	for _, a := range list {
		for _, b := range list {
			for seq := range 3 {
				a.Seq, b.Seq = 4, 3+seq
				a.Dead, b.Dead = seq == 0, seq == 2
				builds(t, "two entries", eight, []api.Entry{a, b})
			}
		}
	}
	// The last byte of a long code counts as well as its first one.
	long := strings.Repeat("\x80", 127)
	for _, c := range []string{"\x00", "\x7f", "\x80", "\xff"} {
		builds(t, "long codes", api.Head{Width: 1024, Bits: 1, Hi: 1}, []api.Entry{{Code: long + "\x80", ID: 1, Seq: 1}, {Code: long + c, ID: 1, Seq: 1}})
		builds(t, "long codes", api.Head{Width: 1024, Bits: 1, Hi: 1}, []api.Entry{{Code: "\x80" + long, ID: 1, Seq: 1}, {Code: c + long, ID: 0, Seq: 1}})
	}
}

func TestExamples(t *testing.T) {
	for i, c := range []struct {
		h    api.Head
		list []api.Entry
		want api.Errno
	}{
		{api.Head{Width: 63, Bits: 8, Hi: 9}, nil, api.ErrWidth}, {api.Head{Width: 64, Bits: 33, Hi: 9}, nil, api.ErrRange}, {api.Head{Width: 64, Bits: 8, Lo: 3, Hi: 2}, nil, api.ErrRange}, {api.Head{Width: 64, Table: 128, Bits: 8, Hi: 9}, nil, api.ErrRange},
		{eight, []api.Entry{at(1, "a", 5, 3), at(1, "a", 5, 4)}, api.ErrOrder}, {eight, []api.Entry{at(2, "a", 5, 3), at(1, "b", 6, 4)}, api.ErrOrder}, {eight, []api.Entry{at(1, "a", 5, 3), at(1, "a", 6, 4)}, api.OK},
		{eight, []api.Entry{at(256, "a", 5, 3)}, api.ErrRange}, {eight, []api.Entry{at(1, "a", 1<<48+1, 3)}, api.ErrID}, {eight, []api.Entry{at(1, "a", 5, 0)}, api.ErrSeq}, {eight, []api.Entry{at(1, "a", 5, 10)}, api.ErrSeq}, {eight, []api.Entry{{Value: 1, Code: "aaaaaaaaa", ID: -1, Seq: 3}}, api.ErrCode},
	} {
		if b, e := block.Build(c.h, c.list); e != c.want || (b == "") != (e != api.OK) {
			t.Errorf("6.1: example %d: %d, want %d", i, e, c.want)
		}
	}
	b := builds(t, "no entries", eight, nil)
	f := opened(t, "no entries", b)
	if f.Head() != eight || len(f.All()) != 0 || len(f.Find(1)) != 0 || len(f.From(api.Entry{}, 5)) != 0 || f.Reads() != 0 {
		t.Errorf("6.4: no entries: %+v, Reads %d", f.Head(), f.Reads())
	}
	list := row(1000, 7)
	b = builds(t, "1000 entries", eight, list)
	blocks := len(blocksOf(list))
	for _, c := range []struct{ value, found, reads int }{{7, 1000, blocks}, {6, 0, 1}, {8, 0, 1}} {
		f := opened(t, "1000 entries", b)
		if n := len(f.Find(c.value)); n != c.found || f.Reads() != c.reads {
			t.Errorf("6.5: Find(%d): %d entries, Reads %d, want %d, %d", c.value, n, f.Reads(), c.found, c.reads)
		}
	}
	f = opened(t, "1000 entries", b)
	if !slices.Equal(f.From(api.Entry{Value: 7, Code: list[500].Code, ID: 500}, 3), list[500:503]) || f.Reads() != 1 {
		t.Errorf("6.4: From entry 500: Reads %d", f.Reads())
	}
	if len(f.From(list[500], 0)) != 0 || f.Reads() != 1 || len(f.From(api.Entry{Value: 9}, 5)) != 0 || f.Reads() != 2 {
		t.Errorf("6.4: From with nothing to find: Reads %d", f.Reads())
	}
	frames := framesOf(eight, list)
	corrupt(t, "6.3: the empty text", "")
	corrupt(t, "6.3: without its foot", text(frames[:len(frames)-1]))
	corrupt(t, "6.3: a byte behind", b+"\x00")
}

// TestBytes: two files written out by hand.
func TestBytes(t *testing.T) {
	h := api.Head{Width: 128, Table: 127, Bits: 32, Lo: 299, Hi: 1 << 60, Count: 77}
	sixteen := strings.Repeat("\xc3", 16)
	list := []api.Entry{{Value: 0, Code: sixteen, ID: 0, Seq: 300, Dead: true}, {Value: 1<<32 - 1, Code: sixteen, ID: 1 << 48, Seq: 1 << 60}}
	block1 := "\x00\x00\x00\x00" + sixteen + "\x00" + "\xac\x02" + "\x01" + "\xff\xff\xff\xff" + sixteen + "\x80\x80\x80\x80\x80\x80\x40" + "\x80\x80\x80\x80\x80\x80\x80\x80\x10" + "\x00"
	head := framed(4, "\x80\x01"+"\x7f"+"\x20"+"\xab\x02"+"\x80\x80\x80\x80\x80\x80\x80\x80\x10"+"\x02")
	data := framed(5, block1)
	index := framed(6, "\x00\x00\x00\x00"+sixteen+"\x00"+"\x02"+"\x1e") // 14 and 16 bytes ahead of it
	foot := framed(7, "\x01"+seven(len(head+data))+"\x26\xdc\x18\xa6")
	if b, e := block.Build(h, list); b != head+data+index+foot || e != api.OK {
		t.Errorf("6.2: %x, %d\nwant %x", b, e, head+data+index+foot)
	}
	tells(t, "by hand", head+data+index+foot, h, list)
	head = framed(4, "\x40\x00\x08\x00\x09\x00")
	foot = framed(7, "\x00\x14\x00\x00\x00\x00")
	if b, e := block.Build(eight, nil); b != head+foot || e != api.OK {
		t.Errorf("6.2: no entries: %x, %d\nwant %x", b, e, head+foot)
	}
	tells(t, "by hand", head+foot, eight, nil)
}

// TestFullBlocks: an entry that just has room, and one that has not.
func TestFullBlocks(t *testing.T) {
	full := row(384, 7)[128:] // 256 of 16 bytes
	if n := len(strings.Join(textsOf(full), "")); n != 4096 {
		t.Fatalf("no full block: %d bytes", n)
	}
	for _, c := range []struct {
		list   []api.Entry
		blocks []int
	}{
		{full, []int{256}}, {full[:255], []int{255}}, {row(385, 7)[128:], []int{256, 1}}, {row(640, 7)[128:], []int{256, 256}}, {row(641, 7)[128:], []int{256, 256, 1}},
		{row(383, 7)[127:], []int{256}}, {row(384, 7)[127:], []int{256, 1}}, // 15 bytes and 255 times 16: one is left
		{append(slices.Clone(full[:255]), at(7, "b", 1<<20, 1)), []int{255, 1}}, // 18 bytes do not go where 16 do
		{append(slices.Clone(full[:255]), at(7, "b", 1<<20, 1), at(7, "c", 1, 1)), []int{255, 2}},
	} {
		b := builds(t, "full blocks", eight, c.list)
		f := tells(t, "full blocks", b, eight, c.list)
		if len(f.Find(7)) != len(c.list) || f.Reads() != len(c.blocks) {
			t.Errorf("6.2: %d entries stand in %d blocks, want %v", len(c.list), f.Reads(), c.blocks)
		}
		var counts []int
		for _, block := range blocksOf(c.list) {
			counts = append(counts, len(block))
		}
		if !slices.Equal(counts, c.blocks) {
			t.Errorf("6.2: blocks of %v entries, want %v", counts, c.blocks)
		}
	}
}

// TestFullIndex: lines of the index fill a frame to the last byte, or do not by few.
func TestFullIndex(t *testing.T) {
	h := api.Head{Width: 1024, Bits: 8, Hi: 9}
	sizes := map[int]int{}
	for long := range 40 {
		var list []api.Entry
		for i := range 2000 {
			id := 1<<28 + i // five bytes
			if i < long*29 {
				id += 1 << 35 // six
			}
			list = append(list, api.Entry{Value: i / 100, Code: strings.Repeat(string([]byte{byte(i % 100)}), 128), ID: id, Seq: 1 + i%9})
		}
		b := builds(t, "a full index", h, list)
		tells(t, "a full index", b, h, list)
		for _, f := range framesOf(h, list) {
			if f.kind == 6 {
				sizes[len(f.payload)]++
			}
		}
	}
	if sizes[4096] == 0 || sizes[4095] == 0 {
		t.Errorf("6.2: no index's frame has 4096 bytes, or none 4095: %v", sizes)
	}
}

func TestMostEntries(t *testing.T) {
	list := make([]api.Entry, 2097153)
	code := strings.Repeat("a", 8)
	for i := range list {
		list[i] = api.Entry{Value: i / 2, Code: code, ID: i, Seq: 1 + i%9, Dead: i%5 == 0}
	}
	h := api.Head{Width: 64, Bits: 32, Hi: 9}
	if b, e := block.Build(h, list); b != "" || e != api.ErrMany {
		t.Errorf("6.1: 2097153 entries: %d", e)
	}
	b := builds(t, "2097152 entries", h, list[:2097152])
	f := opened(t, "2097152 entries", b)
	h.Count = 2097152
	if f.Head() != h || !slices.Equal(f.All(), list[:2097152]) {
		t.Errorf("6.4: 2097152 entries: %+v, %d", f.Head(), len(f.All()))
	}
	for _, value := range []int{0, 1, 500000, 1<<20 - 1} {
		if reads := f.Reads(); !slices.Equal(f.Find(value), list[2*value:2*value+2]) || f.Reads() > reads+4 {
			t.Errorf("6.7: Find(%d) reads %d blocks", value, f.Reads()-reads)
		}
	}
	corrupt(t, "6.3: 2097153 entries", text(framesOf(h, list)))
	list[0].Code, list[0].ID = "", -1
	for want, h := range map[api.Errno]api.Head{api.ErrMany: h, api.ErrWidth: {}, api.ErrRange: {Width: 64}, api.ErrCode: {Width: 64, Bits: 8}} {
		some := list
		if want == api.ErrCode {
			some = list[:2097152]
		}
		if b, e := block.Build(h, some); b != "" || e != want {
			t.Errorf("6.1: %d wrong entries: %d, want %d", len(some), e, want)
		}
	}
}

// TestThereAndBack: made-up heads and lists.
func TestThereAndBack(t *testing.T) {
	g := from(6)
	several := 0
	for range 600 {
		h := g.head()
		list := g.list(h, g.Below(1<<g.Below(11)), 1+g.Below(20))
		b := builds(t, "made up", h, list)
		tells(t, "made up", b, h, list)
		if len(blocksOf(list)) > 2 {
			several++
		}
	}
	if several < 50 {
		t.Errorf("6.6: of 600 files %d alone have several blocks", several)
	}
}

func TestEveryWidth(t *testing.T) {
	g := from(7)
	for w := 64; w <= 1024; w += 64 {
		h := api.Head{Width: w, Table: w % 128, Bits: 32, Lo: w, Hi: 1 << 60}
		list := g.list(h, 300, 40)
		f := tells(t, "a width", builds(t, "a width", h, list), h, list)
		for _, e := range list {
			if !slices.Contains(f.Find(e.Value), e) {
				t.Fatalf("6.4: of width %d %#v is not found", w, e)
			}
		}
	}
}

// searches: Find and From answer and read what 6.4, 6.5 and 6.7 say.
func searches(t *testing.T, f *block.File, list []api.Entry, blocks [][]api.Entry, value int, e api.Entry, most int) {
	t.Helper()
	was := f.Reads()
	found, want := f.Find(value), findModel(list, value)
	reads := f.Reads() - was
	if !slices.Equal(found, want) {
		t.Fatalf("6.4: Find(%d): %d entries, want %d", value, len(found), len(want))
	}
	if reads != findReads(blocks, value) {
		t.Fatalf("6.5: Find(%d) of %d blocks reads %d, want %d", value, len(blocks), reads, findReads(blocks, value))
	}
	if reads > len(want)+2 {
		t.Fatalf("6.7: Find(%d) finds %d and reads %d blocks", value, len(want), reads)
	}
	found, want = f.From(e, most), fromModel(list, e, most)
	reads = f.Reads() - was - reads
	if !slices.Equal(found, want) {
		t.Fatalf("6.4: From(%#v, %d): %d entries, want %d", e, most, len(found), len(want))
	}
	if reads != fromReads(blocks, e, most) {
		t.Fatalf("6.5: From(%#v, %d) of %d blocks reads %d, want %d", e, most, len(blocks), reads, fromReads(blocks, e, most))
	}
}

func TestSearch(t *testing.T) {
	g := from(8)
	for range 60 {
		h := g.head()
		if g.Below(2) == 0 {
			h.Bits = 3 // so that values between and beside those that are there are asked for
		}
		list := g.list(h, g.Below(700), 1+g.Below(8))
		blocks := blocksOf(list)
		f := opened(t, "searches", builds(t, "searches", h, list))
		if len(list) == 0 {
			list = nil
		}
		for range 200 {
			e := api.Entry{Value: g.Below(10) - 1, Code: g.code(h.Width), ID: g.number(0, 1<<48), Seq: g.number(-1, 1<<60), Dead: g.Below(2) == 0}
			if n := len(list); n > 0 && g.Below(4) > 0 {
				e = g.near(list[g.Below(n)])
			}
			if n := len(blocks); n > 0 && g.Below(3) == 0 {
				e = g.near(blocks[g.Below(n)][0])
			}
			searches(t, f, list, blocks, e.Value, e, []int{-1, 0, 1, 2, 30, 300, 1000, math.MaxInt}[g.Below(8)])
		}
	}
}

// near is an entry's place, or one beside it.
func (g maker) near(e api.Entry) api.Entry {
	switch g.Below(8) {
	case 0:
		e.ID++
	case 1:
		e.ID--
	case 2:
		e.Value++
	case 3:
		e.Value--
	case 4:
		e.Code = e.Code[:g.Below(len(e.Code))]
	case 5:
		e.Code += g.Text(g.Below(3))
	case 6:
		e.Seq, e.Dead = -e.Seq, !e.Dead
	}
	return e
}

// TestSearchAtTheEdges: places that no entry can have.
func TestSearchAtTheEdges(t *testing.T) {
	list := slices.Concat(row(600, 0), row(20, 1), row(300, 254), row(600, 255))
	for _, list := range [][]api.Entry{list, list[:1], list[599:601], nil} {
		blocks := blocksOf(list)
		f := opened(t, "edges", builds(t, "edges", eight, list))
		for _, value := range append([]int{254, 3}, edges...) {
			for _, code := range []string{"", "a", "aaaaaaa", "aaaaaaaa", "aaaaaaaab", "b", "\x00", "\xff", strings.Repeat("a", 2000)} {
				for _, id := range []int{math.MinInt, -1, 0, 1, 299, 300, 599, 600, 1 << 48, math.MaxInt} {
					searches(t, f, list, blocks, value, api.Entry{Value: value, Code: code, ID: id}, 5)
				}
			}
			for _, most := range edges {
				searches(t, f, list, blocks, value, api.Entry{Value: value}, most)
			}
		}
	}
}

// TestEveryPlace: each entry of a file of several blocks is found by its value and by its place, whatever was asked ahead of it.
func TestEveryPlace(t *testing.T) {
	h := api.Head{Width: 64, Bits: 16, Hi: 9}
	var list []api.Entry
	for i := range 1500 {
		list = append(list, at(i*i/900, "a", i, 1+i%9))
	}
	blocks := blocksOf(list)
	f := opened(t, "every place", builds(t, "every place", h, list))
	for i, e := range list {
		for _, most := range []int{1, 2, 256} {
			searches(t, f, list, blocks, e.Value, e, most)
			searches(t, f, list, blocks, e.Value-1, api.Entry{Value: e.Value, Code: e.Code, ID: e.ID - 1}, most)
			searches(t, f, list, blocks, e.Value+1, api.Entry{Value: e.Value, Code: e.Code, ID: e.ID + 1}, most)
		}
		if reads := f.Reads(); !slices.Equal(f.From(e, math.MaxInt), list[i:]) || f.Reads() == reads {
			t.Fatalf("6.4: From entry %d does not tell all behind it", i)
		}
	}
	reads := f.Reads()
	f.All()
	f.Head()
	f.From(list[0], 0)
	f.From(list[0], -1)
	if f.Reads() != reads {
		t.Errorf("6.5: All, Head, or From with most below 1 count")
	}
}

// TestBlocksThatBeginAtAPlace: what is asked for is a block's first entry, or stands just beside it.
func TestBlocksThatBeginAtAPlace(t *testing.T) {
	list := slices.Concat(row(384, 4)[128:], row(384, 6)[128:], row(384, 8)[128:])
	if counts := filled(textsOf(list)); !slices.Equal(counts, []int{256, 256, 256}) {
		t.Fatalf("blocks of %v entries", counts)
	}
	b := builds(t, "three values, three blocks", eight, list)
	for value, reads := range map[int]int{3: 1, 4: 2, 5: 2, 6: 3, 7: 2, 8: 2, 9: 1} { // 5: block 0 has nothing greater
		if f := opened(t, "three blocks", b); len(f.Find(value)) != len(findModel(list, value)) || f.Reads() != reads {
			t.Errorf("6.5: Find(%d) reads %d, want %d", value, f.Reads(), reads)
		}
	}
	for _, c := range []struct {
		e           api.Entry
		most, reads int
	}{
		{list[256], 1, 1}, {list[256], 256, 1}, {list[256], 257, 2}, {list[255], 1, 1}, {list[255], 2, 2}, {api.Entry{Value: 6}, 1, 2}, {api.Entry{Value: 5, Code: "x"}, 600, 3}, {api.Entry{Value: 9}, 1, 1}, {api.Entry{}, 256, 1}, {api.Entry{}, 257, 2}, {api.Entry{}, 999, 3},
	} {
		f := opened(t, "three blocks", b)
		if got := f.From(c.e, c.most); !slices.Equal(got, fromModel(list, c.e, c.most)) || f.Reads() != c.reads {
			t.Errorf("6.5: From(%#v, %d): %d entries, Reads %d, want %d", c.e, c.most, len(got), f.Reads(), c.reads)
		}
	}
}

// TestListsThatDoNotGo: files of right frames, sums and index, of heads and lists that Build refuses.
func TestListsThatDoNotGo(t *testing.T) {
	good := slices.Concat(row(400, 7), row(50, 8))
	spoil := func(i int, change func(e *api.Entry)) []api.Entry {
		list := slices.Clone(good)
		change(&list[i])
		return list
	}
	for _, i := range []int{0, 1, 200, 272, 273, 449} {
		for name, list := range map[string][]api.Entry{
			"value": spoil(i, func(e *api.Entry) { e.Value = 256 }), "id": spoil(i, func(e *api.Entry) { e.ID = 1<<48 + 1 }), "wrapped id": spoil(i, func(e *api.Entry) { e.ID = -1 }),
			"seq 0": spoil(i, func(e *api.Entry) { e.Seq = 0 }), "seq 10": spoil(i, func(e *api.Entry) { e.Seq = 10 }), "wrapped seq": spoil(i, func(e *api.Entry) { e.Seq = math.MinInt }),
			"twice": slices.Insert(slices.Clone(good), i, good[i]), "long code": spoil(i, func(e *api.Entry) { e.Code += "a" }), "short code": spoil(i, func(e *api.Entry) { e.Code = e.Code[1:] }), "no code": spoil(i, func(e *api.Entry) { e.Code = "" }),
			"turned round": append(slices.Clone(good[i:]), good[:i]...),
		} {
			if refusal(eight, list) == api.OK {
				continue
			}
			corrupt(t, "6.3: "+name, text(framesOf(eight, list)))
		}
	}
	numbers := slices.Clone(edges)
	for n := -140; n < 140; n++ { // so that codes of a width have few bytes, none, or less
		numbers = append(numbers, n)
	}
	for _, list := range [][]api.Entry{nil, good[:3], good} {
		for _, n := range numbers {
			for i := range 5 {
				h := eight
				*[]*int{&h.Width, &h.Table, &h.Bits, &h.Lo, &h.Hi}[i] = n
				if b := text(framesOf(h, list)); refusal(h, list) == api.OK {
					tells(t, "a head at its edges", b, h, list)
				} else {
					corrupt(t, "6.3: a head that does not go", b)
				}
			}
		}
	}
}

// TestOtherBlocks: the entries go, but stand in other blocks than Build makes, or the index does.
func TestOtherBlocks(t *testing.T) {
	h := api.Head{Width: 1024, Bits: 8, Hi: 9}
	var list []api.Entry
	for i := range 1800 {
		list = append(list, api.Entry{Value: i / 10, Code: strings.Repeat("c", 128), ID: i, Seq: 3})
	}
	right := filled(textsOf(list))
	tells(t, "as Build makes them", text(lay(h, cutInto(list, right), filled)), h, list)
	for i := range len(right) - 1 {
		for _, move := range []int{-right[i+1], -1, 1, right[i] - 1} {
			counts := slices.Clone(right)
			counts[i] -= move
			counts[i+1] += move
			counts = slices.DeleteFunc(counts, func(n int) bool { return n == 0 })
			corrupt(t, "6.3: other blocks", text(lay(h, cutInto(list, counts), filled)))
		}
	}
	for name, fill := range map[string]func([]string) []int{
		"a line each":   func(lines []string) []int { return slices.Repeat([]int{1}, len(lines)) },
		"all in one":    func(lines []string) []int { return []int{len(lines)} },
		"one less":      func(lines []string) []int { n := filled(lines)[0] - 1; return []int{n, len(lines) - n} },
		"the last away": func(lines []string) []int { n := filled(lines); n[len(n)-1]--; return n },
		"none":          func([]string) []int { return nil },
		"an empty one":  func(lines []string) []int { return append(filled(lines), 0) },
	} {
		corrupt(t, "6.3: an index with "+name, text(lay(h, cutInto(list, right), fill)))
		corrupt(t, "6.3: a short index with "+name, text(lay(eight, [][]api.Entry{row(3, 7)}, func(lines []string) []int {
			if name == "one less" || name == "all in one" || name == "a line each" {
				return []int{0, 1}
			}
			return fill(lines)
		})))
	}
}

// TestOtherFrames: frames of a file are taken away, doubled, exchanged, of other kinds, or empty.
func TestOtherFrames(t *testing.T) {
	for _, list := range [][]api.Entry{nil, row(1, 7), row(1000, 7)} {
		frames := framesOf(eight, list)
		for i, f := range frames {
			corrupt(t, "6.3: a frame missing", text(slices.Delete(slices.Clone(frames), i, i+1)))
			corrupt(t, "6.3: a frame twice", text(slices.Insert(slices.Clone(frames), i, f)))
			corrupt(t, "6.3: ends early", text(frames[:i]))
			corrupt(t, "6.3: begins late", text(frames[i+1:]))
			for kind := range 10 {
				corrupt(t, "6.3: an empty frame between", text(slices.Insert(slices.Clone(frames), i, frame{byte(kind), ""})))
				corrupt(t, "6.3: a frame between", text(slices.Insert(slices.Clone(frames), i, frame{byte(kind), f.payload})))
				if byte(kind) == f.kind {
					continue
				}
				other := slices.Clone(frames)
				other[i].kind = byte(kind)
				corrupt(t, "6.3: another kind", text(other))
			}
			for j, g := range frames {
				if f == g {
					continue
				}
				other := slices.Clone(frames)
				other[i], other[j] = g, f
				corrupt(t, "6.3: two exchanged", text(other))
			}
			for _, payload := range []string{"", f.payload + "\x00", "\x00" + f.payload, f.payload[:len(f.payload)-1], f.payload[1:], f.payload + f.payload, strings.Repeat("\x80", 65536)} {
				other := slices.Clone(frames)
				other[i].payload = payload
				if _, _, ok := readModel(text(other)); !ok {
					corrupt(t, "6.3: another payload", text(other))
				}
			}
		}
		corrupt(t, "6.3: two files", text(frames)+text(frames))
		corrupt(t, "6.3: a frame behind", text(frames)+framed(8, ""))
	}
}

// TestOtherNumbers: heads, index and foot that say something else than what stands there.
func TestOtherNumbers(t *testing.T) {
	list := row(300, 7)
	frames := framesOf(eight, list)
	with := func(i int, payload string) string {
		other := slices.Clone(frames)
		other[i].payload = payload
		return text(other)
	}
	for _, n := range append([]int{298, 299, 301, 302, 2097152, 2097153}, edges...) {
		corrupt(t, "6.3: another count", with(0, seven(64, 0, 8, 0, 9, n)))
		if n != 2 {
			corrupt(t, "6.3: another number of blocks", with(4, seven(n)+frames[4].payload[1:]))
		}
	}
	corrupt(t, "6.3: a count too long", with(0, seven(64, 0, 8, 0, 9)+"\xac\x82\x00"))
	corrupt(t, "6.3: a width too long", with(0, "\xc0\x00"+seven(0, 8, 0, 9, 300)))
	corrupt(t, "6.3: a foot too long", with(4, "\x82\x00"+frames[4].payload[1:]))
	for i := range frames {
		for place := 0; place < len(frames[i].payload); place += 1 + place/200 { // the first ones all, and some of the others
			for _, turn := range []byte{1, 2, 0x40, 0x80, 0xff} {
				p := []byte(frames[i].payload)
				p[place] ^= turn
				asTheModel(t, with(i, string(p)))
			}
		}
	}
}

// asTheModel: Open answers what 6.3 says of any bytes.
func asTheModel(t *testing.T, b string) bool {
	t.Helper()
	h, list, ok := readModel(b)
	if !ok {
		corrupt(t, "6.3", b)
		return false
	}
	tells(t, "another file", b, h, list)
	return true
}

// TestMadeUpFrames: files whose payloads were changed ahead of framing them, so that no sum tells it.
func TestMadeUpFrames(t *testing.T) {
	g := from(9)
	goes := 0
	for range 4000 {
		h := g.head()
		list := g.list(h, g.Below(1<<g.Below(8)), 1+g.Below(4))
		if n := len(list); n > 0 && g.Below(2) == 0 {
			e := &list[g.Below(n)]
			*[]*int{&e.Value, &e.ID, &e.Seq}[g.Below(3)] += g.Below(3) - 1
			e.Dead = g.Below(2) == 0
		}
		frames := framesOf(h, list)
		if g.Below(2) == 0 {
			f := &frames[g.Below(len(frames))]
			f.payload = g.changed(f.payload)
		}
		if asTheModel(t, text(frames)) {
			goes++
		}
	}
	if goes < 1000 || goes > 3000 {
		t.Errorf("6.3: of 4000 made-up files %d were ones", goes)
	}
}

// changed is a text with a byte more, less or another.
func (g maker) changed(s string) string {
	b := []byte(s)
	i := g.Below(len(b) + 1)
	switch {
	case g.Below(3) == 0 || i == len(b):
		return string(slices.Insert(b, i, byte(g.Next())))
	case g.Below(2) == 0:
		return string(slices.Delete(b, i, i+1))
	}
	b[i] ^= 1 << g.Below(8)
	return string(b)
}

func TestAnyBytes(t *testing.T) {
	g := from(10)
	for range 3000 {
		corrupt(t, "6.3: any bytes", g.Text(g.Below(200)))
	}
	for range 3000 {
		var b strings.Builder
		for range g.Below(5) {
			b.WriteString(framed(byte(4+g.Below(4)), g.Text(g.Below(30))))
		}
		asTheModel(t, b.String())
	}
	head := framed(4, seven(64, 0, 8, 0, 9, 0))
	for range 2000 {
		asTheModel(t, head+framed(5, g.Text(g.Below(100)))+framed(7, g.Text(6)))
	}
}

// TestSpoilt: every byte of a small file made every other byte; every byte of greater ones made some others.
func TestSpoilt(t *testing.T) {
	dead := at(255, "\xff", 300, 9)
	dead.Dead = true
	for _, list := range [][]api.Entry{nil, {at(1, "a", 5, 9), dead}} {
		b := []byte(builds(t, "to be spoilt", eight, list))
		for i := range b {
			was := b[i]
			for turn := 1; turn < 256; turn++ {
				b[i] = was ^ byte(turn)
				corrupt(t, "6.8: a byte changed", string(b))
			}
			b[i] = was
		}
	}
	g := from(11)
	for _, c := range [][2]int{{64, 300}, {1024, 40}} {
		w, n := c[0], c[1]
		h := api.Head{Width: w, Bits: 8, Hi: 300}
		list := g.list(h, n, 40)
		if n := len(blocksOf(list)); n != 2 {
			t.Fatalf("%d blocks", n)
		}
		b := []byte(builds(t, "to be spoilt", h, list))
		for i := range b {
			was := b[i]
			for _, turn := range []byte{1, 0x80, byte(1 + g.Below(255))} {
				b[i] = was ^ turn
				corrupt(t, "6.8: a byte changed", string(b))
			}
			b[i] = was
		}
	}
}

func TestCutOffOrPutBehind(t *testing.T) {
	g := from(12)
	for _, c := range [][2]int{{64, 300}, {1024, 60}} {
		w, n := c[0], c[1]
		h := api.Head{Width: w, Bits: 8, Hi: 300}
		for _, list := range [][]api.Entry{nil, g.list(h, 1, 1), g.list(h, n, 40)} {
			b := builds(t, "to be cut", h, list)
			for n := range len(b) {
				corrupt(t, "6.8: its end cut off", b[:n])
			}
			for n := range 256 {
				corrupt(t, "6.8: a byte behind", b+string([]byte{byte(n)}))
			}
			for n := 1; n <= len(b); n += 1 + n/10 {
				corrupt(t, "6.8: its beginning cut off", b[n:])
				corrupt(t, "6.8: bytes behind", b+b[:n])
			}
		}
	}
}

// loose is a text whose bytes turn told makes others.
func loose(s string) (text string, turn func()) {
	b := []byte(s)
	return unsafe.String(unsafe.SliceData(b), len(b)), func() {
		for i := range b {
			b[i] ^= 0xff
		}
	}
}

func TestNothingHandedInIsKept(t *testing.T) {
	want := builds(t, "to be kept", eight, row(400, 7))
	room := row(500, 7)
	list := room[:400]
	code, turn := loose(list[0].Code)
	for i := range list {
		list[i].Code = code
	}
	b, e := block.Build(eight, list)
	if !slices.Equal(room, row(500, 7)) {
		t.Errorf("R4: Build changes the list, or what stands behind it")
	}
	turn()
	clear(room)
	if b != want || e != api.OK {
		t.Errorf("R4: Build keeps what it was handed")
	}
	b, turn = loose(want)
	f := opened(t, "a text that changes", b)
	all := f.All()
	turn()
	list = row(400, 7)
	if !slices.Equal(all, list) || !slices.Equal(f.All(), list) || !slices.Equal(f.Find(7), list) || !slices.Equal(f.From(list[300], 3), list[300:303]) {
		t.Errorf("R4: Open keeps the text")
	}
	code, turn = loose(list[0].Code)
	found := f.From(api.Entry{Value: 7, Code: code, ID: 300}, 1)
	turn()
	if !slices.Equal(found, list[300:301]) {
		t.Errorf("R4: From keeps the code")
	}
}

func TestAnswersAreNew(t *testing.T) {
	list := slices.Concat(row(400, 7), row(400, 8))
	f := opened(t, "answers", builds(t, "answers", eight, list))
	for name, ask := range map[string]func() []api.Entry{
		"All": f.All, "Find": func() []api.Entry { return f.Find(8) }, "From": func() []api.Entry { return f.From(list[399], 300) },
	} {
		first, second := ask(), ask()
		want := slices.Clone(second)
		clear(first[:cap(first)])
		if !slices.Equal(second, want) || !slices.Equal(ask(), want) {
			t.Errorf("6.4: %s: what is done with an answer changes another one", name)
		}
	}
	if !slices.Equal(f.All(), list) {
		t.Errorf("6.4: what is done with an answer changes the file")
	}
}

// TestFilesAreApart: two files of one text count for themselves.
func TestFilesAreApart(t *testing.T) {
	b := builds(t, "two", eight, row(10, 7))
	f, g := opened(t, "two", b), opened(t, "two", b)
	f.Find(7)
	f.From(api.Entry{}, 1)
	if f.Reads() != 2 || g.Reads() != 0 {
		t.Errorf("6.5: Reads %d and %d, want 2 and 0", f.Reads(), g.Reads())
	}
}

func TestUnmade(t *testing.T) {
	var none *block.File
	for _, f := range []*block.File{none, new(block.File)} {
		if f.Head() != (api.Head{}) || len(f.All()) != 0 || len(f.Find(0)) != 0 || len(f.From(api.Entry{}, 5)) != 0 || f.Reads() != 0 {
			t.Errorf("R1: a file that nobody made tells something")
		}
	}
}
