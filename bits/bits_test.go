package bits_test

import (
	"fmt"
	"math"
	mathbits "math/bits"
	"slices"
	"strconv"
	"strings"
	"testing"

	"kindred/api"
	"kindred/bits"
)

// edges are numbers with which sums and products wrap.
var edges = []int{math.MinInt, math.MinInt + 1, math.MinInt + 64, -1 << 32, -65, -64, -8, -1, 1 << 32, 1 << 60, 1 << 61, 1 << 62, math.MaxInt - 64, math.MaxInt - 63, math.MaxInt - 1, math.MaxInt}

// texts makes texts that look like no pattern, the same ones each time.
type texts struct{ state uint64 }

func (t *texts) next() uint64 {
	t.state += 0x9e3779b97f4a7c15
	z := t.state
	z = (z ^ z>>30) * 0xbf58476d1ce4e5b9
	z = (z ^ z>>27) * 0x94d049bb133111eb
	return z ^ z>>31
}

func (t *texts) text(n int) string {
	out := make([]byte, n)
	for i := range out {
		out[i] = byte(t.next())
	}
	return string(out)
}

// digits writes a text as its bits, bit 0 first: what the promises are held against.
func digits(s string) string {
	var out strings.Builder
	for i := range len(s) {
		fmt.Fprintf(&out, "%08b", s[i])
	}
	return out.String()
}

// undigits is the text of these bits.
func undigits(d string) string {
	out := make([]byte, len(d)/8)
	for i := range out {
		v, err := strconv.ParseUint(d[8*i:8*i+8], 2, 8)
		if err != nil {
			panic(err)
		}
		out[i] = byte(v)
	}
	return string(out)
}

// widths are all widths there are.
func widths() []int {
	var out []int
	for w := 64; w <= 1024; w += 64 {
		out = append(out, w)
	}
	return out
}

// eachParting calls f for every width and every number of chunks that goes with it.
func eachParting(f func(w, m int)) {
	for _, w := range widths() {
		for m := (w + 31) / 32; m <= w/8; m++ {
			f(w, m)
		}
	}
}

func TestCheck(t *testing.T) {
	for w := -1100; w <= 2100; w++ {
		for _, n := range []int{0, 1, 7, 8, 9, w/8 - 1, w / 8, w/8 + 1, w} {
			if n < 0 {
				continue
			}
			want := api.OK
			if !slices.Contains(widths(), w) {
				want = api.ErrWidth
			} else if 8*n != w {
				want = api.ErrCode
			}
			if e := bits.Check(w, strings.Repeat("\xa5", n)); e != want {
				t.Errorf("1.1: Check(%d, %d bytes) = %d, want %d", w, n, e, want)
			}
		}
	}
	for _, w := range edges {
		if e := bits.Check(w, "12345678"); e != api.ErrWidth {
			t.Errorf("1.1: Check(%d, 8 bytes) = %d, want ErrWidth", w, e)
		}
	}
}

func TestWeight(t *testing.T) {
	for b := range 256 {
		if n := bits.Weight(string([]byte{byte(b)})); n != mathbits.OnesCount(uint(b)) {
			t.Errorf("1.2: Weight of the byte %02x = %d", b, n)
		}
	}
	src := &texts{1}
	for n := range 150 {
		s := src.text(n)
		if got, want := bits.Weight(s), strings.Count(digits(s), "1"); got != want {
			t.Errorf("1.2: Weight(%x) = %d, want %d", s, got, want)
		}
	}
	if n := bits.Weight(strings.Repeat("\xff", 1<<16)); n != 1<<19 {
		t.Errorf("1.2: Weight of many ones = %d", n)
	}
	if n := bits.Weight("\xff\x01"); n != 9 {
		t.Errorf("1.2: Weight(ff 01) = %d, want 9", n)
	}
}

func TestXorAndDistance(t *testing.T) {
	src := &texts{2}
	for n := range 140 {
		a, b := src.text(n), src.text(n)
		da, db := digits(a), digits(b)
		want := make([]byte, len(da))
		unlike := 0
		for i := range want {
			want[i] = '0'
			if da[i] != db[i] {
				want[i] = '1'
				unlike++
			}
		}
		if x, e := bits.Xor(a, b); digits(x) != string(want) || e != api.OK {
			t.Errorf("1.2: Xor(%x, %x) = %x, %d", a, b, x, e)
		}
		if d, e := bits.Distance(a, b); d != unlike || e != api.OK {
			t.Errorf("1.2: Distance(%x, %x) = %d, %d, want %d", a, b, d, e, unlike)
		}
	}
	if x, e := bits.Xor("\x0f\xff", "\x00\x01"); x != "\x0f\xfe" || e != api.OK {
		t.Errorf("1.2: Xor(0f ff, 00 01) = %x, %d", x, e)
	}
	if d, e := bits.Distance("\x0f", "\xf0"); d != 8 || e != api.OK {
		t.Errorf("1.2: Distance(0f, f0) = %d, %d", d, e)
	}
}

func TestXorAndDistanceRefuse(t *testing.T) {
	for _, c := range [][2]string{{"\xff", "\xff\xff"}, {"\xff\xff", "\xff"}, {"", "\xff"}, {"\xff", ""}, {strings.Repeat("x", 128), strings.Repeat("x", 8)}} {
		if x, e := bits.Xor(c[0], c[1]); x != "" || e != api.ErrCode {
			t.Errorf("1.2: Xor(%x, %x) = %x, %d, want ErrCode", c[0], c[1], x, e)
		}
		if d, e := bits.Distance(c[0], c[1]); d != 0 || e != api.ErrCode {
			t.Errorf("1.2: Distance(%x, %x) = %d, %d, want ErrCode", c[0], c[1], d, e)
		}
	}
}

func TestBitAndFlip(t *testing.T) {
	src := &texts{3}
	for _, n := range []int{1, 2, 3, 8, 13, 128, 131} {
		s := src.text(n)
		d := digits(s)
		for i := range 8 * n {
			if b, e := bits.Bit(s, i); b != int(d[i]-'0') || e != api.OK {
				t.Errorf("1.3: Bit(%x, %d) = %d, %d", s, i, b, e)
			}
			turned := []byte(d)
			turned[i] ^= 1
			if f, e := bits.Flip(s, i); digits(f) != string(turned) || e != api.OK {
				t.Errorf("1.3: Flip(%x, %d) = %x, %d", s, i, f, e)
			}
		}
	}
	for i, want := range map[int]string{0: "\x80", 7: "\x01"} {
		if f, e := bits.Flip("\x00", i); f != want || e != api.OK {
			t.Errorf("1.3: Flip(00, %d) = %x, %d", i, f, e)
		}
	}
}

func TestBitAndFlipRefuse(t *testing.T) {
	for _, n := range []int{0, 1, 2, 8, 128} {
		s := strings.Repeat("\xff", n)
		for _, i := range append([]int{8 * n, 8*n + 1, 8*n + 7, 8*n + 8}, edges...) {
			if b, e := bits.Bit(s, i); b != 0 || e != api.ErrRange {
				t.Errorf("1.3: Bit of %d bytes at %d = %d, %d, want ErrRange", n, i, b, e)
			}
			if f, e := bits.Flip(s, i); f != "" || e != api.ErrRange {
				t.Errorf("1.3: Flip of %d bytes at %d = %x, %d, want ErrRange", n, i, f, e)
			}
		}
	}
}

// sliceOf is what Slice should answer, read from the digits.
func sliceOf(d string, from, n int) (uint64, api.Errno) {
	if n < 0 || n > 64 || from < 0 || from > len(d) || n > len(d)-from {
		return 0, api.ErrRange
	}
	v := uint64(0)
	for _, c := range d[from : from+n] {
		v = 2*v + uint64(c-'0')
	}
	return v, api.OK
}

func TestSlice(t *testing.T) {
	src := &texts{4}
	for _, s := range []string{"", "\x80", "\x01", "\x12\x34\x56", strings.Repeat("\xff", 8), strings.Repeat("\xff", 9), src.text(8), src.text(19), src.text(128)} {
		d := digits(s)
		for from := -3; from <= len(d)+3; from++ {
			for n := -3; n <= 70; n++ {
				want, wantE := sliceOf(d, from, n)
				if v, e := bits.Slice(s, from, n); v != want || e != wantE {
					t.Errorf("1.4: Slice(%x, %d, %d) = %x, %d, want %x, %d", s, from, n, v, e, want, wantE)
				}
			}
		}
	}
	for _, c := range []struct {
		s       string
		from, n int
		v       uint64
		e       api.Errno
	}{{"\x12\x34\x56", 4, 12, 0x234, api.OK}, {"\x12\x34\x56", 24, 0, 0, api.OK}, {"\x12\x34\x56", 24, 1, 0, api.ErrRange}, {"\x12\x34\x56", 25, 0, 0, api.ErrRange}, {strings.Repeat("\xff", 8), 0, 64, math.MaxUint64, api.OK}, {strings.Repeat("\xff", 9), 0, 65, 0, api.ErrRange}} {
		if v, e := bits.Slice(c.s, c.from, c.n); v != c.v || e != c.e {
			t.Errorf("1.4: Slice(%x, %d, %d) = %x, %d, want %x, %d", c.s, c.from, c.n, v, e, c.v, c.e)
		}
	}
}

func TestSliceOfAnyNumbers(t *testing.T) {
	small := []int{0, 1, 2, 8, 63, 64}
	for _, s := range []string{"", "\xff", strings.Repeat("\xff", 9), strings.Repeat("\xff", 128)} {
		for _, x := range edges {
			for _, y := range append(small, edges...) {
				for _, c := range [][2]int{{x, y}, {y, x}} {
					if v, e := bits.Slice(s, c[0], c[1]); v != 0 || e != api.ErrRange {
						t.Errorf("1.4: Slice of %d bytes (%d, %d) = %x, %d, want ErrRange", len(s), c[0], c[1], v, e)
					}
				}
			}
		}
	}
}

// partingE is why w bits can't be parted into m chunks.
func partingE(w, m int) api.Errno {
	if !slices.Contains(widths(), w) {
		return api.ErrWidth
	}
	if m < 1 || 32*m < w || 8*m > w {
		return api.ErrChunks
	}
	return api.OK
}

func TestChunksOfAnyNumbers(t *testing.T) {
	var ws, ms []int
	for w := -130; w <= 1160; w++ {
		ws = append(ws, w)
	}
	for m := -5; m <= 140; m++ {
		ms = append(ms, m)
	}
	ws, ms = append(ws, edges...), append(ms, edges...)
	for _, w := range ws {
		for _, m := range ms {
			want := partingE(w, m)
			l, e := bits.Chunks(w, m)
			if e != want || e != api.OK && len(l) != 0 || e == api.OK && len(l) != m {
				t.Errorf("1.5: Chunks(%d, %d): %d chunks, %d, want %d", w, m, len(l), e, want)
			}
		}
	}
}

func TestChunksByTheRule(t *testing.T) {
	eachParting(func(w, m int) {
		b, e := w/m, w%m
		var want []api.Chunk
		for j := range m {
			// The chunks ahead of j have b bits each, the first e of them one more.
			want = append(want, api.Chunk{From: j*b + min(j, e), Bits: b})
			if j < e {
				want[j].Bits = b + 1
			}
		}
		if l, e := bits.Chunks(w, m); !slices.Equal(l, want) || e != api.OK {
			t.Errorf("1.5: Chunks(%d, %d) = %v, %d, want %v", w, m, l, e, want)
		}
	})
	for _, c := range []struct {
		m    int
		want []api.Chunk
	}{
		{2, []api.Chunk{{From: 0, Bits: 32}, {From: 32, Bits: 32}}},
		{3, []api.Chunk{{From: 0, Bits: 22}, {From: 22, Bits: 21}, {From: 43, Bits: 21}}},
		{7, []api.Chunk{{From: 0, Bits: 10}, {From: 10, Bits: 9}, {From: 19, Bits: 9}, {From: 28, Bits: 9}, {From: 37, Bits: 9}, {From: 46, Bits: 9}, {From: 55, Bits: 9}}},
	} {
		if l, e := bits.Chunks(64, c.m); !slices.Equal(l, c.want) || e != api.OK {
			t.Errorf("1.5: Chunks(64, %d) = %v, %d, want %v", c.m, l, e, c.want)
		}
	}
}

func TestSplit(t *testing.T) {
	src := &texts{5}
	eachParting(func(w, m int) {
		for _, code := range []string{src.text(w / 8), strings.Repeat("\x00", w/8), strings.Repeat("\xff", w/8)} {
			d := digits(code)
			var want []int
			for _, c := range mustChunks(t, w, m) {
				v, err := strconv.ParseInt(d[c.From:c.From+c.Bits], 2, 64)
				if err != nil {
					t.Fatal(err)
				}
				want = append(want, int(v))
			}
			if v, e := bits.Split(w, m, code); !slices.Equal(v, want) || e != api.OK {
				t.Errorf("1.6: Split(%d, %d, %x) = %x, %d, want %x", w, m, code, v, e, want)
			}
		}
	})
	for _, c := range []struct {
		m    int
		want []int
	}{{8, []int{1, 2, 3, 4, 5, 6, 7, 8}}, {2, []int{0x01020304, 0x05060708}}} {
		if v, e := bits.Split(64, c.m, "\x01\x02\x03\x04\x05\x06\x07\x08"); !slices.Equal(v, c.want) || e != api.OK {
			t.Errorf("1.6: Split(64, %d, 01 .. 08) = %x, %d", c.m, v, e)
		}
	}
}

func TestSplitRefuses(t *testing.T) {
	long := strings.Repeat("\xff", 128)
	for _, c := range []struct {
		w, m int
		code string
		e    api.Errno
	}{
		{64, 8, "", api.ErrCode}, {64, 8, long[:7], api.ErrCode}, {64, 8, long[:9], api.ErrCode}, {64, 2, long, api.ErrCode},
		{1024, 32, long[:127], api.ErrCode}, {1024, 32, long + "x", api.ErrCode}, {1024, 31, long, api.ErrChunks}, {1024, 129, long, api.ErrChunks},
		{64, 1, long[:8], api.ErrChunks}, {64, 9, long[:8], api.ErrChunks}, {64, 0, "", api.ErrChunks}, {64, 1, "", api.ErrChunks},
		{96, 8, long[:12], api.ErrWidth}, {0, 0, "", api.ErrWidth}, {0, 9, "x", api.ErrWidth}, {-64, -2, "", api.ErrWidth}, {1088, 40, long + long[:8], api.ErrWidth},
		{math.MaxInt, math.MaxInt, "", api.ErrWidth}, {math.MinInt, math.MinInt, "", api.ErrWidth}, {64, math.MaxInt, long[:8], api.ErrChunks}, {64, math.MinInt, long[:8], api.ErrChunks},
	} {
		if v, e := bits.Split(c.w, c.m, c.code); len(v) != 0 || e != c.e {
			t.Errorf("1.6: Split(%d, %d, %d bytes) = %x, %d, want %d", c.w, c.m, len(c.code), v, e, c.e)
		}
	}
}

func mustChunks(t *testing.T, w, m int) []api.Chunk {
	t.Helper()
	l, e := bits.Chunks(w, m)
	if e != api.OK || len(l) != m {
		t.Fatalf("1.5: Chunks(%d, %d) = %v, %d", w, m, l, e)
	}
	return l
}

// values draws a value for each chunk.
func (t *texts) values(l []api.Chunk) []int {
	out := make([]int, len(l))
	for j, c := range l {
		out[j] = int(t.next() >> (64 - c.Bits))
	}
	return out
}

func TestJoin(t *testing.T) {
	src := &texts{6}
	eachParting(func(w, m int) {
		l := mustChunks(t, w, m)
		values := src.values(l)
		var want strings.Builder
		for j, c := range l {
			fmt.Fprintf(&want, "%0*b", c.Bits, values[j])
		}
		if s, e := bits.Join(w, m, values); s != undigits(want.String()) || e != api.OK {
			t.Errorf("1.6: Join(%d, %d, %x) = %x, %d", w, m, values, s, e)
		}
	})
	if s, e := bits.Join(64, 8, []int{1, 2, 3, 4, 5, 6, 7, 8}); s != "\x01\x02\x03\x04\x05\x06\x07\x08" || e != api.OK {
		t.Errorf("1.6: Join(64, 8, 1 .. 8) = %x, %d", s, e)
	}
}

// Each chunk takes its greatest value, and nothing above it or below 0.
func TestJoinBounds(t *testing.T) {
	eachParting(func(w, m int) {
		for j, c := range mustChunks(t, w, m) {
			values := make([]int, m)
			values[j] = 1<<c.Bits - 1
			want := strings.Repeat("0", c.From) + strings.Repeat("1", c.Bits) + strings.Repeat("0", w-c.From-c.Bits)
			if s, e := bits.Join(w, m, values); s != undigits(want) || e != api.OK {
				t.Errorf("1.6: Join(%d, %d) with the greatest value at %d = %x, %d", w, m, j, s, e)
			}
			for _, v := range append([]int{1 << c.Bits, 1<<c.Bits + 1, -2}, edges...) {
				if v >= 0 && v < 1<<c.Bits {
					continue
				}
				values[j] = v
				if s, e := bits.Join(w, m, values); s != "" || e != api.ErrRange {
					t.Errorf("1.6: Join(%d, %d) with %d at %d = %x, %d, want ErrRange", w, m, v, j, s, e)
				}
			}
		}
	})
}

func TestJoinRefuses(t *testing.T) {
	eachParting(func(w, m int) {
		for _, n := range []int{0, 1, m - 1, m + 1, 2 * m} {
			if s, e := bits.Join(w, m, make([]int, n)); n != m && (s != "" || e != api.ErrRange) {
				t.Errorf("1.6: Join(%d, %d, %d values) = %x, %d, want ErrRange", w, m, n, s, e)
			}
		}
	})
	bad := []int{-1, -1}
	for _, c := range []struct {
		w, m   int
		values []int
		e      api.Errno
	}{
		{64, 2, nil, api.ErrRange}, {64, 8, []int{256, 0, 0, 0, 0, 0, 0, 0}, api.ErrRange}, {64, 2, []int{-1, 0}, api.ErrRange},
		{64, 1, []int{0}, api.ErrChunks}, {64, 1, bad, api.ErrChunks}, {64, 0, nil, api.ErrChunks}, {64, 9, make([]int, 9), api.ErrChunks},
		{1024, 31, bad, api.ErrChunks}, {1024, 129, make([]int, 129), api.ErrChunks}, {64, math.MaxInt, bad, api.ErrChunks}, {64, math.MinInt, bad, api.ErrChunks},
		{96, 2, bad, api.ErrWidth}, {0, 0, nil, api.ErrWidth}, {63, 1, bad, api.ErrWidth}, {-64, 2, bad, api.ErrWidth}, {1088, 34, make([]int, 34), api.ErrWidth}, {math.MaxInt, 2, bad, api.ErrWidth}, {math.MinInt, 2, bad, api.ErrWidth},
	} {
		if s, e := bits.Join(c.w, c.m, c.values); s != "" || e != c.e {
			t.Errorf("1.6: Join(%d, %d, %d values) = %x, %d, want %d", c.w, c.m, len(c.values), s, e, c.e)
		}
	}
}

func TestListsHandedInAreLeftAlone(t *testing.T) {
	src := &texts{7}
	eachParting(func(w, m int) {
		room := append(src.values(mustChunks(t, w, m)), -7, 1<<40, 5)
		before := slices.Clone(room)
		first, e := bits.Join(w, m, room[:m])
		if e != api.OK || !slices.Equal(room, before) {
			t.Errorf("1.7: Join(%d, %d): %d, %x is now %x", w, m, e, before, room)
		}
		if _, e := bits.Join(w, m, room); e != api.ErrRange || !slices.Equal(room, before) {
			t.Errorf("1.7: Join(%d, %d) with too many: %d, %x is now %x", w, m, e, before, room)
		}
		said := strings.Clone(first)
		clear(room)
		if again, e := bits.Join(w, m, before[:m]); first != said || again != said || e != api.OK {
			t.Errorf("1.7: Join(%d, %d) hangs on a list that was changed since", w, m)
		}
	})
}

func TestListsAnsweredAreNew(t *testing.T) {
	src := &texts{8}
	eachParting(func(w, m int) {
		code := src.text(w / 8)
		l, v := mustChunks(t, w, m), mustSplit(t, w, m, code)
		wantL, wantV := slices.Clone(l), slices.Clone(v)
		otherL, otherV := mustChunks(t, w, m), mustSplit(t, w, m, code)
		clear(l[:cap(l)])
		clear(v[:cap(v)])
		if !slices.Equal(otherL, wantL) || !slices.Equal(mustChunks(t, w, m), wantL) {
			t.Errorf("1.7: answers of Chunks(%d, %d) share memory", w, m)
		}
		if !slices.Equal(otherV, wantV) || !slices.Equal(mustSplit(t, w, m, code), wantV) {
			t.Errorf("1.7: answers of Split(%d, %d) share memory", w, m)
		}
	})
}

func mustSplit(t *testing.T, w, m int, code string) []int {
	t.Helper()
	v, e := bits.Split(w, m, code)
	if e != api.OK || len(v) != m {
		t.Fatalf("1.6: Split(%d, %d, %x) = %x, %d", w, m, code, v, e)
	}
	return v
}

func mustDistance(t *testing.T, a, b string) int {
	t.Helper()
	d, e := bits.Distance(a, b)
	if e != api.OK {
		t.Fatalf("1.2: Distance(%x, %x): %d", a, b, e)
	}
	return d
}

func TestDistanceIsADistance(t *testing.T) {
	src := &texts{9}
	for _, n := range []int{0, 1, 3, 8, 16, 128} {
		few := []string{strings.Repeat("\x00", n), strings.Repeat("\xff", n), strings.Repeat("\x55", n), strings.Repeat("\xaa", n), src.text(n), src.text(n), src.text(n)}
		for _, a := range few {
			for _, b := range few {
				ab := mustDistance(t, a, b)
				if ab != mustDistance(t, b, a) || (ab == 0) != (a == b) {
					t.Errorf("1.8: Distance(%x, %x) = %d", a, b, ab)
				}
				for _, c := range few {
					if ab > mustDistance(t, a, c)+mustDistance(t, c, b) {
						t.Errorf("1.8: Distance(%x, %x) = %d is above the way by %x", a, b, ab, c)
					}
				}
			}
		}
	}
}

func TestFlipChangesDistanceByOne(t *testing.T) {
	src := &texts{10}
	for _, n := range []int{1, 8, 24, 128} {
		a, b := src.text(n), src.text(n)
		d := mustDistance(t, a, b)
		for i := range 8 * n {
			f, e := bits.Flip(a, i)
			x, ex := bits.Bit(a, i)
			y, ey := bits.Bit(b, i)
			if e != api.OK || ex != api.OK || ey != api.OK {
				t.Fatalf("1.3: bit %d of %d bytes: %d, %d, %d", i, n, e, ex, ey)
			}
			want := d - 1
			if x == y {
				want = d + 1
			}
			if got := mustDistance(t, f, b); got != want {
				t.Errorf("1.8: bit %d of %x turned: %d from %x, want %d", i, a, got, b, want)
			}
		}
	}
}

func TestSplitAndJoinUndoEachOther(t *testing.T) {
	src := &texts{11}
	eachParting(func(w, m int) {
		for range 4 {
			code := src.text(w / 8)
			if s, e := bits.Join(w, m, mustSplit(t, w, m, code)); s != code || e != api.OK {
				t.Errorf("1.9: Join(%d, %d) of the parts of %x = %x, %d", w, m, code, s, e)
			}
			values := src.values(mustChunks(t, w, m))
			s, e := bits.Join(w, m, values)
			if e != api.OK {
				t.Fatalf("1.6: Join(%d, %d, %x): %d", w, m, values, e)
			}
			if v := mustSplit(t, w, m, s); !slices.Equal(v, values) {
				t.Errorf("1.9: Split(%d, %d) of %x joined = %x", w, m, values, v)
			}
		}
	})
}

func TestChunksPartTheBits(t *testing.T) {
	eachParting(func(w, m int) {
		l := mustChunks(t, w, m)
		at := 0
		for j, c := range l {
			if c.From != at || c.Bits < 8 || c.Bits > 32 || j > 0 && c.Bits > l[j-1].Bits {
				t.Errorf("1.9: Chunks(%d, %d): chunk %d is %v", w, m, j, c)
			}
			at += c.Bits
		}
		if at != w || l[0].Bits-l[m-1].Bits > 1 {
			t.Errorf("1.9: Chunks(%d, %d) = %v: %d bits", w, m, l, at)
		}
	})
}

func TestPigeonhole(t *testing.T) {
	src := &texts{12}
	eachParting(func(w, m int) {
		a := src.text(w / 8)
		b := a
		for k := range 2 * m {
			v, x := mustSplit(t, w, m, a), mustSplit(t, w, m, b)
			sum, least := 0, w
			for j := range m {
				n := mathbits.OnesCount(uint(v[j] ^ x[j]))
				sum, least = sum+n, min(least, n)
			}
			if d := mustDistance(t, a, b); sum != d || least > d/m {
				t.Errorf("1.10: %d, %d: %x and %x are %d apart, by chunks %d, the least %d", w, m, a, b, d, sum, least)
			}
			// Spread over the code, so that chunk after chunk gets its unlike bit.
			f, e := bits.Flip(b, (k*(w/m)+k/m)%w)
			if e != api.OK {
				t.Fatalf("1.3: Flip: %d", e)
			}
			b = f
		}
	})
}
