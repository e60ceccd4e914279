package manifest_test

import (
	"encoding/hex"
	"fmt"
	"math"
	"slices"
	"strconv"
	"strings"
	"testing"

	"kindred/api"
	"kindred/disk"
	"kindred/internal/sample"
	"kindred/manifest"
)

// edges are numbers with which differences and conversions wrap, and those near to a bound.
var edges = []int{math.MinInt, math.MinInt + 1, -1 << 61, -1 << 60, -1 << 40, -1 << 32, -65, -64, -2, -1, 0, 1, 2, 3, 4, 5, 6, 7, 8, 9, 23, 24, 25, 31, 32, 63, 64, 65, 127, 128, 129, 255, 256, 960, 1023, 1024, 1025, 1088, 1<<20 - 1, 1 << 20, 1<<20 + 1, 1<<21 - 1, 1 << 21, 1<<21 + 1, 1<<32 + 1, 1<<32 + 2, 1<<32 + 64, 1<<40 - 1, 1 << 40, 1<<40 + 1, 1<<60 - 1, 1 << 60, 1<<60 + 1, 1 << 62, math.MaxInt - 1, math.MaxInt}

// chapter is the M of the chapter's examples.
func chapter() api.Manifest {
	return api.Manifest{Opts: api.Opts{Width: 64, Chunks: 2, Mode: api.Chunked}, Seq: 5, Next: 4, Journal: 3, Runs: []api.RunInfo{{Number: 2, Lo: 0, Hi: 5, Count: 4}}}
}

// but is the chapter's M with a change.
func but(change func(m *api.Manifest)) api.Manifest {
	m := chapter()
	change(&m)
	return m
}

// next is the chapter's M with another Next: one that is easily told from it.
func next(n int) api.Manifest { return but(func(m *api.Manifest) { m.Next = n }) }

// rows is a manifest with n runs, as many as there may be or not.
func rows(n int) api.Manifest {
	m := api.Manifest{Opts: api.Opts{Width: 128, Chunks: 16, Mode: api.Chunked}, Seq: 1 << 30, Next: 1 << 20, Journal: 1 << 19}
	for i := range n {
		m.Runs = append(m.Runs, api.RunInfo{Number: 1000 - i, Lo: 1000 * i, Hi: 1000*i + 999, Count: i + 1})
	}
	return m
}

func run(number, lo, hi, count int) api.RunInfo {
	return api.RunInfo{Number: number, Lo: lo, Hi: hi, Count: count}
}

func same(a, b api.Manifest) bool {
	return a.Opts == b.Opts && a.Seq == b.Seq && a.Next == b.Next && a.Journal == b.Journal && slices.Equal(a.Runs, b.Runs)
}

// told is a manifest in a few words.
func told(m api.Manifest) string {
	s := fmt.Sprintf("%#v", m)
	return s[:min(len(s), 400)]
}

func short(b string) string { return hex.EncodeToString([]byte(b[:min(len(b), 200)])) }

func unhex(s string) string {
	b, err := hex.DecodeString(strings.ReplaceAll(s, " ", ""))
	if err != nil {
		panic(err)
	}
	return string(b)
}

// wantCheck holds Check against the model and tells whether it takes m.
func wantCheck(t *testing.T, m api.Manifest) bool {
	t.Helper()
	want := checkModel(m)
	if e := manifest.Check(m); e != want {
		t.Fatalf("8.1: Check(%s) = %d, want %d", told(m), e, want)
	}
	return want == api.OK
}

// wantEncode holds Encode against the model, and what it wrote is read again.
func wantEncode(t *testing.T, m api.Manifest) {
	t.Helper()
	want, errno := "", checkModel(m)
	if errno == api.OK {
		want = bytesFor(m)
	}
	b, e := manifest.Encode(m)
	if b != want || e != errno {
		t.Fatalf("8.2: Encode(%s) = %s, %d, want %s, %d", told(m), short(b), e, short(want), errno)
	}
	if errno != api.OK {
		return
	}
	if back, e := manifest.Decode(b); !same(back, m) || e != api.OK {
		t.Fatalf("8.7: Decode(Encode(%s)) = %s, %d", told(m), told(back), e)
	}
}

// wantDecode holds Decode against the model, and what it took is written again.
func wantDecode(t *testing.T, b string) api.Errno {
	t.Helper()
	want, errno := decodeModel(b)
	m, e := manifest.Decode(b)
	if !same(m, want) || e != errno {
		t.Fatalf("8.3: Decode(%s) = %s, %d, want %s, %d", short(b), told(m), e, told(want), errno)
	}
	if e == api.OK {
		if back, e := manifest.Encode(m); back != b || e != api.OK {
			t.Fatalf("8.7: Encode(Decode(%s)) = %s, %d", short(b), short(back), e)
		}
	}
	return e
}

func TestCheckOfTheChapter(t *testing.T) {
	for i, c := range []struct {
		change func(m *api.Manifest)
		e      api.Errno
	}{
		{func(m *api.Manifest) {}, api.OK},
		{func(m *api.Manifest) { m.Width = 63 }, api.ErrWidth},
		{func(m *api.Manifest) { m.Mode = 3 }, api.ErrMode},
		{func(m *api.Manifest) { m.Chunks = 1 }, api.ErrChunks},
		{func(m *api.Manifest) { m.Mode = api.Treed }, api.ErrChunks},
		{func(m *api.Manifest) { m.Mode, m.Chunks = api.Treed, 0 }, api.OK},
		{func(m *api.Manifest) { m.Next = 3 }, api.ErrCorrupt},
		{func(m *api.Manifest) { m.Journal = 2 }, api.ErrCorrupt},
		{func(m *api.Manifest) { m.Seq = 4 }, api.ErrCorrupt},
		{func(m *api.Manifest) { m.Runs[0].Count = 0 }, api.ErrCorrupt},
		{func(m *api.Manifest) { m.Runs[0].Lo = 5 }, api.ErrCorrupt},
		{func(m *api.Manifest) { m.Runs = append(m.Runs, m.Runs[0]) }, api.ErrCorrupt},
		{func(m *api.Manifest) { m.Runs[0].Number = 4 }, api.ErrCorrupt},
	} {
		m := but(c.change)
		if e := manifest.Check(m); e != c.e {
			t.Errorf("8.1: example %d: Check(%s) = %d, want %d", i, told(m), e, c.e)
		}
		wantEncode(t, m)
	}
}

func TestCheckOfOptions(t *testing.T) {
	numbers := slices.Clone(edges)
	for n := -5; n <= 1100; n++ {
		numbers = append(numbers, n)
	}
	for _, w := range numbers {
		for _, mode := range []int{1, 2, 3, 0, -1, 257, 258, 1<<32 + 1, math.MinInt, math.MaxInt} {
			for _, chunks := range []int{0, 2, 4, 8, 16, 32, 128, -1, 129, math.MaxInt} {
				wantCheck(t, but(func(m *api.Manifest) { m.Opts = api.Opts{Width: w, Chunks: chunks, Mode: mode} }))
			}
		}
	}
	took := 0
	for w := 64; w <= 1024; w += 64 {
		for mode := range 4 {
			for _, chunks := range append(slices.Clone(edges), numbers[len(edges):len(edges)+150]...) {
				if wantCheck(t, but(func(m *api.Manifest) { m.Opts = api.Opts{Width: w, Chunks: chunks, Mode: mode} })) {
					took++
				}
			}
		}
	}
	if took < 500 {
		t.Errorf("8.1: only %d options were taken: the test tries too few", took)
	}
}

func TestCheckOfEachNumber(t *testing.T) {
	for _, base := range []api.Manifest{chapter(), rows(2), rows(3), rows(24), rows(0), but(func(m *api.Manifest) { m.Seq, m.Next = 1<<60, 1<<40; m.Runs[0].Hi = 1 << 60 })} {
		for i := range places(&base) {
			for _, n := range append(slices.Clone(edges), 997, 998, 999, 1000, 1001, 1998, 1999, 2000, 2001, 2998, 2999, 3000, 1<<19-1, 1<<19, 1<<19+1, 1<<30) {
				m := base
				m.Runs = slices.Clone(base.Runs)
				*places(&m)[i] = n
				wantCheck(t, m)
				wantEncode(t, m)
			}
		}
	}
}

func TestCheckOfTwoNumbers(t *testing.T) {
	base := rows(3)
	few := []int{math.MinInt, -1, 0, 1, 2, 3, 64, 998, 999, 1000, 1001, 1999, 2000, 1 << 19, 1<<19 + 1, 1 << 20, 1 << 21, 1 << 40, 1<<40 + 1, 1 << 60, 1<<60 + 1, math.MaxInt}
	for i := range places(&base) {
		for k := range i {
			for _, a := range few {
				for _, b := range few {
					m := base
					m.Runs = slices.Clone(base.Runs)
					*places(&m)[i], *places(&m)[k] = a, b
					wantCheck(t, m)
				}
			}
		}
	}
}

// TestFirstRefusal: where several refusals apply, the first in the chapter's order is answered.
func TestFirstRefusal(t *testing.T) {
	bad := []struct {
		change func(m *api.Manifest)
		e      api.Errno
	}{
		{func(m *api.Manifest) { m.Width = 96 }, api.ErrWidth},
		{func(m *api.Manifest) { m.Mode = 0 }, api.ErrMode},
		{func(m *api.Manifest) { m.Chunks = 99 }, api.ErrChunks},
		{func(m *api.Manifest) { m.Seq = -1 }, api.ErrCorrupt},
		{func(m *api.Manifest) { m.Next = 1 }, api.ErrCorrupt},
		{func(m *api.Manifest) { m.Journal = 0 }, api.ErrCorrupt},
		{func(m *api.Manifest) { m.Runs = make([]api.RunInfo, 25) }, api.ErrCorrupt},
	}
	for set := range 1 << len(bad) {
		m, want := chapter(), api.OK
		for i, c := range bad {
			if set>>i&1 == 1 {
				c.change(&m)
				if want == api.OK {
					want = c.e
				}
			}
		}
		b, f := manifest.Encode(m)
		if e := manifest.Check(m); e != want || f != want || (b == "") != (want != api.OK) {
			t.Errorf("8.1: of the refusals %b: Check %d, Encode %d (%d bytes), want %d", set, e, f, len(b), want)
		}
	}
}

func TestHowManyRuns(t *testing.T) {
	for n := range 40 {
		m := rows(n)
		if took := wantCheck(t, m); took != (n <= 24) {
			t.Errorf("8.1: %d runs: taken %v", n, took)
		}
		wantEncode(t, m)
	}
	// Each two runs in one another's place, and each run twice, anywhere.
	for i := range 24 {
		for k := range 24 {
			m := rows(24)
			m.Runs[i], m.Runs[k] = m.Runs[k], m.Runs[i]
			if wantCheck(t, m) != (i == k) {
				t.Errorf("8.1: runs %d and %d in one another's place", i, k)
			}
			m = rows(24)
			m.Runs[i].Number = m.Runs[k].Number
			if wantCheck(t, m) != (i == k) {
				t.Errorf("8.1: runs %d and %d of one number", i, k)
			}
		}
	}
	if e := manifest.Check(rows(100000)); e != api.ErrCorrupt {
		t.Errorf("8.1: 100000 runs: %d", e)
	}
}

// TestRunsMayTouchOrNot: the next run's Lo is the Hi ahead of it, or above it.
func TestRunsMayTouchOrNot(t *testing.T) {
	for a := -1; a <= 4; a++ {
		for b := -1; b <= 4; b++ {
			for c := -1; c <= 4; c++ {
				for e := -1; e <= 4; e++ {
					for seq := range 5 {
						m := api.Manifest{Opts: chapter().Opts, Seq: seq, Next: 4, Journal: 1, Runs: []api.RunInfo{run(2, a, b, 1), run(3, c, e, 1)}}
						wantCheck(t, m)
						if want := 0 <= a && a < b && b <= c && c < e && e <= seq; (manifest.Check(m) == api.OK) != want {
							t.Errorf("8.1: runs %d to %d and %d to %d, Seq %d: taken %v", a, b, c, e, seq, !want)
						}
					}
				}
			}
		}
	}
}

func TestMadeUpManifests(t *testing.T) {
	k := maker{sample.From(81)}
	took := 0
	for range 20000 {
		m := k.good()
		if !wantCheck(t, m) {
			t.Fatalf("the maker's %s does not go", told(m))
		}
		wantEncode(t, m)
		m = k.near()
		if wantCheck(t, m) {
			took++
		}
		wantEncode(t, m)
	}
	if took < 2000 || took > 18000 {
		t.Errorf("of 20000 changed manifests %d go: the test tries too few of one kind", took)
	}
}

func TestEncodeOfTheChapter(t *testing.T) {
	if b, e := manifest.Encode(chapter()); b != framed(3, unhex("40 02 01 05 04 03 01 02 00 05 04")) || e != api.OK {
		t.Errorf("8.2: Encode(M) = %s, %d", short(b), e)
	}
	// All numbers unlike, and of more than one byte each.
	m := api.Manifest{Opts: api.Opts{Width: 1024, Chunks: 128, Mode: api.Chunked}, Seq: 1 << 60, Next: 1 << 40, Journal: 300, Runs: []api.RunInfo{run(301, 302, 303, 304), run(200, 305, 306, 307)}}
	want := framed(3, unhex("8008 8001 01 808080808080808010 808080808020 ac02 02 ad02 ae02 af02 b002 c801 b102 b202 b302"))
	if b, e := manifest.Encode(m); b != want || e != api.OK {
		t.Errorf("8.2: Encode = %s, %d, want %s", short(b), e, short(want))
	}
	// The longest there is.
	m = api.Manifest{Opts: m.Opts, Seq: 1 << 60, Next: 1 << 40, Journal: 1<<40 - 1}
	for i := range 24 {
		m.Runs = append(m.Runs, api.RunInfo{Number: 1<<40 - 2 - i, Lo: 1<<59 + i, Hi: 1<<59 + i + 1, Count: 1 << 21})
	}
	wantEncode(t, m)
	if b, e := manifest.Encode(m); e != api.OK || len(b) > 1000 {
		t.Errorf("8.2: the longest manifest: %d bytes, %d", len(b), e)
	}
}

func TestDecodeOfTheChapter(t *testing.T) {
	p := unhex("40 02 01 05 04 03 01 02 00 05 04")
	whole := framed(3, p)
	if m, e := manifest.Decode(whole); !same(m, chapter()) || e != api.OK {
		t.Errorf("8.3: Decode of M's bytes = %s, %d", told(m), e)
	}
	nine := strings.Repeat("\xff", 9)
	for _, c := range []struct {
		b string
		e api.Errno
	}{
		{"", api.ErrShort}, {"x", api.ErrMagic}, {"x" + whole, api.ErrMagic}, {whole[:9], api.ErrShort}, {whole[:len(whole)-1], api.ErrShort}, {whole[:len(whole)-1] + "x", api.ErrSum}, {framed(0, p), api.ErrKind}, {framed(0, p) + "x", api.ErrKind},
		{whole + "x", api.ErrLong}, {whole + whole, api.ErrLong}, {framed(2, p) + "x", api.ErrLong}, {framed(3, "") + "x", api.ErrLong},
		{framed(2, p), api.ErrKind}, {framed(2, ""), api.ErrKind}, {framed(4, p), api.ErrKind}, {framed(255, p), api.ErrKind},
		{framed(3, p[:10]), api.ErrShort}, {framed(3, p+"\x00"), api.ErrLong}, {framed(3, p+p), api.ErrLong},
		{framed(3, ""), api.ErrShort}, {framed(3, "\x80"), api.ErrShort}, {framed(3, "\xc0\x00"), api.ErrForm}, {framed(3, nine+"\x02"), api.ErrOver}, {framed(3, nine+"\x01"), api.ErrCorrupt},
		{framed(3, packed(1<<60+1)), api.ErrCorrupt}, {framed(3, packed(1<<60)), api.ErrShort}, {framed(3, packed(1<<63)), api.ErrCorrupt}, {framed(3, packed(1<<64-64)), api.ErrCorrupt},
		{framed(3, p[:6]), api.ErrShort}, {framed(3, p[:6]+"\x18"), api.ErrShort}, {framed(3, p[:6]+"\x19"), api.ErrCorrupt}, {framed(3, p[:6]+"\x19\x80\x00"), api.ErrCorrupt}, {framed(3, p[:6]+nine+"\x01"), api.ErrCorrupt}, {framed(3, p[:6]+nine+"\x02"), api.ErrOver}, {framed(3, p[:6]+"\x99\x00"), api.ErrForm},
		{framed(3, p[:6]+"\x00"+p[7:]), api.ErrLong}, {framed(3, p[:6]+"\x02"+p[7:]), api.ErrShort}, {framed(3, p[:7]+packed(2, 0, 1<<60+1)), api.ErrCorrupt}, {framed(3, p[:7]+packed(2, 0, 1<<60, 4)), api.ErrCorrupt},
		{framed(3, "\x41"+p[1:]), api.ErrWidth}, {framed(3, "\x41"+p[1:]+"\x00"), api.ErrLong}, {framed(3, p[:2]+"\x03"+p[3:]), api.ErrMode}, {framed(3, "\x40\x01"+p[2:]), api.ErrChunks}, {framed(3, p[:3]+"\x04"+p[4:]), api.ErrCorrupt}, {framed(3, p[:10]+"\x00"), api.ErrCorrupt},
	} {
		if m, e := manifest.Decode(c.b); !same(m, api.Manifest{}) || m.Runs != nil || e != c.e {
			t.Errorf("8.3: Decode(%s) = %s, %d, want %d", short(c.b), told(m), e, c.e)
		}
		wantDecode(t, c.b)
	}
}

func TestDecodeOfEveryPart(t *testing.T) {
	for _, m := range []api.Manifest{chapter(), rows(0), rows(1), rows(24)} {
		b := bytesFor(m)
		p := packed(numbersOf(m)...)
		for n := range b {
			if e := wantDecode(t, b[:n]); e == api.OK {
				t.Errorf("8.3: the first %d bytes of %d are taken", n, len(b))
			}
			for _, x := range []byte{1, 0x80, 0xff} {
				if e := wantDecode(t, b[:n]+string([]byte{b[n] ^ x})+b[n+1:]); e == api.OK {
					t.Errorf("8.3: taken with byte %d xored with %x", n, x)
				}
			}
		}
		for n := range p {
			if e := wantDecode(t, framed(3, p[:n])); e != api.ErrShort {
				t.Errorf("8.3: the first %d bytes of a payload: %d, want ErrShort", n, e)
			}
			for x := range 256 {
				wantDecode(t, framed(3, p[:n]+string([]byte{byte(x)})+p[n+1:]))
				wantDecode(t, framed(3, p[:n]+string([]byte{byte(x)})+p[n:]))
			}
		}
		for kind := range 256 {
			if e := wantDecode(t, framed(byte(kind), p)); (e == api.OK) != (kind == 3) {
				t.Errorf("8.3: a frame of kind %d: %d", kind, e)
			}
		}
	}
}

// TestDecodeNumberByNumber: each number is refused for what it is, ahead of what stands behind it and of Check.
func TestDecodeNumberByNumber(t *testing.T) {
	for _, m := range []api.Manifest{chapter(), rows(3)} {
		list := numbersOf(m)
		for i := range list {
			ahead, behind := packed(list[:i]...), packed(list[i+1:]...)
			for _, c := range []struct {
				text string
				e    api.Errno
			}{{packed(1<<60 + 1), api.ErrCorrupt}, {packed(1<<63 - 1), api.ErrCorrupt}, {packed(1 << 63), api.ErrCorrupt}, {packed(1<<63 + 64), api.ErrCorrupt}, {packed(math.MaxUint64), api.ErrCorrupt}, {"\x81\x00", api.ErrForm}, {"\x80\x80\x00", api.ErrForm}, {strings.Repeat("\x80", 9) + "\x02", api.ErrOver}} {
				for _, rest := range []string{behind, "", behind + "x", "\x80"} {
					for _, width := range []string{"", "\x41"} { // one that Check refuses
						b := ahead
						if width != "" && i > 0 {
							b = width + packed(list[1:i]...)
						}
						if e := wantDecode(t, framed(3, b+c.text+rest)); e != c.e {
							t.Errorf("8.3: number %d as %x: %d, want %d", i, c.text, e, c.e)
						}
					}
				}
			}
			for _, n := range edges {
				wantDecode(t, framed(3, ahead+packed(uint64(n))+behind))
				wantDecode(t, framed(3, ahead+packed(uint64(n))))
			}
		}
	}
}

func TestDecodeOfMadeUpPayloads(t *testing.T) {
	k := maker{sample.From(83)}
	took := map[api.Errno]int{}
	for range 20000 {
		m := k.near()
		list := numbersOf(m)
		for range k.Below(2) {
			list[k.Below(len(list))] = k.Next() >> k.Below(64)
		}
		p := packed(list...)
		switch k.Below(8) {
		case 0:
			p = p[:k.Below(len(p))]
		case 1:
			p += k.Text(1 + k.Below(3))
		case 2:
			at := k.Below(len(p))
			p = p[:at] + k.Text(1) + p[at+1:]
		}
		took[wantDecode(t, framed(3, p))]++
	}
	for _, e := range []api.Errno{api.OK, api.ErrShort, api.ErrLong, api.ErrForm, api.ErrCorrupt, api.ErrWidth, api.ErrMode, api.ErrChunks} {
		if took[e] < 10 {
			t.Errorf("8.3: of 20000 payloads %d were answered with %d: the test tries too few", took[e], e)
		}
	}
	for range 2000 {
		wantDecode(t, framed(3, k.Text(k.Below(12))))
		wantDecode(t, k.Text(k.Below(40)))
	}
	wantDecode(t, framed(3, strings.Repeat("\x00", 65536)))
	wantDecode(t, strings.Repeat("\xa7", 1<<20))
}

func TestNames(t *testing.T) {
	for _, c := range []struct {
		name string
		want [3]int
	}{
		{"manifest", [3]int{1, 0, 0}}, {"manifest.new", [3]int{2, 0, 0}}, {"j7", [3]int{3, 7, 0}}, {"r7.0", [3]int{4, 7, 0}}, {"r7.127", [3]int{4, 7, 127}},
		{"j0", [3]int{}}, {"j07", [3]int{}}, {"j", [3]int{}}, {"r7", [3]int{}}, {"r7.128", [3]int{}}, {"r7.00", [3]int{}}, {"r7.0.1", [3]int{}}, {"j1099511627777", [3]int{}}, {"manifest.old", [3]int{}}, {"", [3]int{}},
		{"j1", [3]int{3, 1, 0}}, {"j1099511627776", [3]int{3, 1 << 40, 0}}, {"r1099511627776.127", [3]int{4, 1 << 40, 127}}, {"r1099511627777.0", [3]int{}}, {"r1.1", [3]int{4, 1, 1}},
		{"j9223372036854775808", [3]int{}}, {"j18446744073709551617", [3]int{}}, {"r1.18446744073709551616", [3]int{}}, {"r18446744073709551617.0", [3]int{}}, {"r1.4294967296", [3]int{}}, {"r1.256", [3]int{}},
		{"j+7", [3]int{}}, {"j-7", [3]int{}}, {"j-0", [3]int{}}, {"j 7", [3]int{}}, {"j7 ", [3]int{}}, {"j7\n", [3]int{}}, {"\nj7", [3]int{}}, {"j7\x00", [3]int{}}, {"j1_0", [3]int{}}, {"j0x1", [3]int{}}, {"j1e3", [3]int{}}, {"j7.0", [3]int{}}, {"j7.", [3]int{}}, {"j٧", [3]int{}}, {"J7", [3]int{}}, {"R7.0", [3]int{}}, {"jj7", [3]int{}}, {"rj7", [3]int{}},
		{"r.0", [3]int{}}, {"r", [3]int{}}, {"r7.", [3]int{}}, {"r.", [3]int{}}, {"r07.0", [3]int{}}, {"r0.0", [3]int{}}, {"r7.-0", [3]int{}}, {"r7.+1", [3]int{}}, {"r+7.0", [3]int{}}, {"r-7.0", [3]int{}}, {"r7..0", [3]int{}}, {"r7.0.", [3]int{}}, {"r7,0", [3]int{}}, {"r7.1_0", [3]int{}}, {"r7.01", [3]int{}}, {"r7.0127", [3]int{}},
		{"Manifest", [3]int{}}, {"manifest.", [3]int{}}, {"manifest.new.", [3]int{}}, {"manifest.ne", [3]int{}}, {"manifes", [3]int{}}, {" manifest", [3]int{}}, {"manifest\x00", [3]int{}}, {"manifestnew", [3]int{}}, {"x", [3]int{}}, {"7", [3]int{}},
	} {
		if k, n, j := manifest.Kind(c.name); [3]int{k, n, j} != c.want {
			t.Errorf("8.6: Kind(%q) = %d, %d, %d, want %d", c.name, k, n, j, c.want)
		}
		wantKind(t, c.name)
	}
}

func wantKind(t *testing.T, name string) {
	t.Helper()
	want := kindModel(name)
	if k, n, j := manifest.Kind(name); [3]int{k, n, j} != want {
		t.Fatalf("8.6: Kind(%q) = %d, %d, %d, want %d", name[:min(len(name), 60)], k, n, j, want)
	}
}

func TestNamesOfAllKinds(t *testing.T) {
	letters := "jr.0127-+_xm"
	words := []string{""}
	for range 5 {
		var longer []string
		for _, w := range words {
			for _, c := range letters {
				longer = append(longer, w+string(c))
			}
		}
		words = longer
		for _, w := range words {
			wantKind(t, w)
		}
	}
	for n := range 1200 {
		s := strconv.Itoa(n)
		for _, name := range []string{"j" + s, "r1." + s, "r" + s + ".0", "r" + s + ".1", "j0" + s, "r1.0" + s, "r0" + s + ".1", "r5." + s + ".0"} {
			wantKind(t, name)
		}
	}
	for _, n := range append(slices.Clone(edges), 1e9, 1e10, 1e12, 1e18) {
		s := strconv.Itoa(n)
		wantKind(t, "j"+s)
		wantKind(t, "r"+s+".5")
		wantKind(t, "r5."+s)
		wantKind(t, "j"+s+"0")
	}
	for _, n := range []int{10, 20, 30, 100, 10000, 1 << 20} {
		wantKind(t, "j"+strings.Repeat("9", n))
		wantKind(t, "j1"+strings.Repeat("0", n))
		wantKind(t, "j"+strings.Repeat("0", n)+"1")
		wantKind(t, "r7."+strings.Repeat("0", n))
		wantKind(t, "r"+strings.Repeat("7", n)+".0")
		wantKind(t, "r7"+strings.Repeat(".", n))
		wantKind(t, strings.Repeat("manifest", n))
	}
	for _, name := range []string{"manifest", "manifest.new", "j1099511627776", "r1099511627776.127"} {
		for i := range name {
			wantKind(t, name[:i])
			wantKind(t, name[i+1:])
			for x := range 256 {
				wantKind(t, name[:i]+string([]byte{byte(x)})+name[i+1:])
				wantKind(t, name[:i]+string([]byte{byte(x)})+name[i:])
				wantKind(t, name+string([]byte{byte(x)}))
			}
		}
	}
}

// TestHandedInAndAnswered: what is handed in stays as it is, its spare room too; answers share nothing.
func TestHandedInAndAnswered(t *testing.T) {
	room := make([]api.RunInfo, 5, 9)
	copy(room, rows(5).Runs)
	for i := range room[5:9] {
		room[:9][5+i] = api.RunInfo{Number: 7, Lo: 7, Hi: 7, Count: i}
	}
	was := slices.Clone(room[:9])
	m := rows(3)
	m.Runs = room[:3]
	d := disk.New(1000)
	e, f := manifest.Check(m), manifest.Store(d, m)
	b, g := manifest.Encode(m)
	if e != api.OK || f != api.OK || g != api.OK || !slices.Equal(room[:9], was) {
		t.Errorf("R4: the runs that were handed in have changed: %d, %d, %d, %v", e, f, g, room[:9])
	}
	one, _ := manifest.Decode(b)
	two, _ := manifest.Decode(b)
	three, _ := manifest.Load(d)
	four, _ := manifest.Load(d)
	for i, x := range []api.Manifest{one, two, three, four} {
		if !same(x, m) {
			t.Fatalf("R4: answer %d is %s", i, told(x))
		}
		all := x.Runs[:cap(x.Runs)]
		for k := range all {
			all[k] = api.RunInfo{Number: -i, Lo: -i, Hi: -i, Count: -i}
		}
	}
	if again, e := manifest.Load(d); !same(again, m) || e != api.OK || !slices.Equal(room[:9], was) {
		t.Errorf("R4: a change of an answer is seen elsewhere: %s, %d", told(again), e)
	}
}
