package seal_test

import (
	"bytes"
	"encoding/binary"
	"encoding/hex"
	"hash/crc32"
	"math"
	"slices"
	"strings"
	"testing"
	"unsafe"

	"kindred/api"
	"kindred/seal"
)

// edges are numbers with which sums and differences of places wrap.
var edges = []int{math.MinInt, math.MinInt + 1, math.MinInt + 8, -1 << 62, -1 << 32, -256, -9, -8, -2, -1, 1 << 32, 1<<32 + 1, 1 << 62, math.MaxInt - 10, math.MaxInt - 8, math.MaxInt - 1, math.MaxInt}

// texts makes numbers and texts that are the same in every run.
type texts struct{ state uint64 }

func (t *texts) next() uint64 {
	t.state += 0x9e3779b97f4a7c15
	x := t.state
	x = (x ^ x>>30) * 0xbf58476d1ce4e5b9
	x = (x ^ x>>27) * 0x94d049bb133111eb
	return x ^ x>>31
}

func (t *texts) below(n int) int { return int(t.next() % uint64(n)) }

func (t *texts) text(n int) string {
	b := make([]byte, n)
	for i := range b {
		b[i] = byte(t.next())
	}
	return string(b)
}

// raw is the text that is written so in the chapter's hexadecimals.
func raw(t *testing.T, digits string) string {
	t.Helper()
	b, err := hex.DecodeString(strings.ReplaceAll(digits, " ", ""))
	if err != nil {
		t.Fatal(err)
	}
	return string(b)
}

// byBits is 3.1 word by word.
func byBits(sum uint32, b string) uint32 {
	register := ^sum
	for _, c := range []byte(b) {
		register ^= uint32(c)
		for range 8 {
			if register%2 == 1 {
				register = register/2 ^ 0x82f63b78
			} else {
				register /= 2
			}
		}
	}
	return ^register
}

// turned is a text with these of its bits turned, counted from the lowest of the first byte on.
func turned(s string, places []int) string {
	b := []byte(s)
	for _, p := range places {
		b[p/8] ^= 1 << (p % 8)
	}
	return string(b)
}

// burst are places of bits, the first at from, the last some bits behind it, those between them as pattern has it.
func burst(from, span int, pattern uint64) []int {
	places := []int{from}
	for i := 1; i < span; i++ {
		if pattern>>i&1 == 1 {
			places = append(places, from+i)
		}
	}
	if span > 0 {
		places = append(places, from+span)
	}
	return places
}

// eachBurst goes through bursts at every place of a text: the shortest and the longest, full and bare, and others.
func eachBurst(s string, f func(spoilt string, places []int)) {
	g := &texts{uint64(len(s))}
	for from := range 8 * len(s) {
		for _, span := range []int{0, 1, 7, 8, 30, 31, g.below(32)} {
			if from+span >= 8*len(s) {
				continue
			}
			for _, pattern := range []uint64{0, math.MaxUint64, g.next(), g.next()} {
				places := burst(from, span, pattern)
				f(turned(s, places), places)
			}
		}
	}
}

func TestSumExamples(t *testing.T) {
	for s, want := range map[string]uint32{"": 0, "123456789": 0xe3069283, "a": 0xc1d04330} {
		if got := seal.Sum(s); got != want {
			t.Errorf("3.1: Sum(%q) = %08x, want %08x", s, got, want)
		}
	}
}

func TestSumOfEveryByte(t *testing.T) {
	for c := range 256 {
		s := string([]byte{byte(c)})
		if got, want := seal.Sum(s), byBits(0, s); got != want {
			t.Errorf("3.1: Sum(%x) = %08x, want %08x", s, got, want)
		}
	}
}

func TestSumAndOnByTheRule(t *testing.T) {
	g := &texts{31}
	library := crc32.MakeTable(crc32.Castagnoli)
	for n := range 300 {
		s := g.text(n)
		if got, want := seal.Sum(s), crc32.Checksum([]byte(s), library); got != want {
			t.Errorf("3.1: Sum(%x) = %08x, want %08x", s, got, want)
		}
		for _, sum := range []uint32{0, 1, 1 << 31, math.MaxUint32, uint32(g.next())} {
			if got, want := seal.On(sum, s), byBits(sum, s); got != want {
				t.Errorf("3.1: On(%08x, %x) = %08x, want %08x", sum, s, got, want)
			}
		}
	}
	long := g.text(1 << 20)
	if got, want := seal.Sum(long), crc32.Checksum([]byte(long), library); got != want {
		t.Errorf("3.1: Sum of %d bytes = %08x, want %08x", len(long), got, want)
	}
}

func TestOnGoesOn(t *testing.T) {
	g := &texts{32}
	for n := range 70 {
		s := g.text(n)
		whole := seal.Sum(s)
		for cut := range n + 1 {
			if got := seal.On(seal.Sum(s[:cut]), s[cut:]); got != whole {
				t.Errorf("3.2: On(Sum(a), b) = %08x, want %08x: %x cut at %d", got, whole, s, cut)
			}
		}
	}
	for _, sum := range []uint32{0, 7, 1 << 31, math.MaxUint32} {
		if got := seal.On(sum, ""); got != sum {
			t.Errorf("3.2: On(%08x, nothing) = %08x", sum, got)
		}
	}
}

func TestSumTellsBursts(t *testing.T) {
	g := &texts{33}
	for _, s := range []string{"\x00", "ab", "\x00\x00\x00\x00", g.text(5), g.text(40), strings.Repeat("\xff", 33)} {
		sum := seal.Sum(s)
		eachBurst(s, func(spoilt string, places []int) {
			if seal.Sum(spoilt) == sum {
				t.Errorf("3.2: Sum of %x is that of it with the bits %v turned", s, places)
			}
		})
	}
}

func wantPutFix(t *testing.T, v uint64, size int, b string, errno api.Errno) {
	t.Helper()
	if got, e := seal.PutFix(v, size); got != b || e != errno {
		t.Errorf("3.3: PutFix(%d, %d) = %x, %d, want %x, %d", v, size, got, e, b, errno)
	}
}

func wantFix(t *testing.T, b string, at, size int, v uint64, errno api.Errno) {
	t.Helper()
	if got, e := seal.Fix(b, at, size); got != v || e != errno {
		t.Errorf("3.3: Fix(%x, %d, %d) = %d, %d, want %d, %d", b, at, size, got, e, v, errno)
	}
}

func TestPutFix(t *testing.T) {
	wantPutFix(t, 258, 2, "\x01\x02", api.OK)
	wantPutFix(t, 256, 1, "", api.ErrOver)
	wantPutFix(t, 0, 9, "", api.ErrRange)
	g := &texts{34}
	for size := 1; size <= 8; size++ {
		top := uint64(math.MaxUint64) >> (64 - 8*size)
		for _, v := range []uint64{0, 1, 255, top / 256, top/256 + 1, top - 1, top, g.next() & top, g.next() & top} {
			if v > top {
				continue
			}
			eight := binary.BigEndian.AppendUint64(nil, v)
			wantPutFix(t, v, size, string(eight[8-size:]), api.OK)
		}
		if size == 8 {
			continue
		}
		for _, v := range []uint64{top + 1, top + 2, top << 8, 1 << 63, math.MaxUint64} {
			wantPutFix(t, v, size, "", api.ErrOver)
		}
	}
}

func TestPutFixOfNoSize(t *testing.T) {
	for _, size := range append([]int{0, 9, 10, 16, 64}, edges...) {
		for _, v := range []uint64{0, 1, 256, math.MaxUint64} {
			wantPutFix(t, v, size, "", api.ErrRange)
		}
	}
}

func TestFix(t *testing.T) {
	wantFix(t, "\x01\x02\x03", 1, 2, 0x203, api.OK)
	wantFix(t, "\x01", 0, 2, 0, api.ErrShort)
	wantFix(t, "\x01", 2, 1, 0, api.ErrRange)
	wantFix(t, "\x01", 1, 0, 0, api.ErrRange)
	g := &texts{35}
	for n := range 20 {
		b := g.text(n)
		for at := range n + 1 {
			for size := 1; size <= 8; size++ {
				if at+size > n {
					wantFix(t, b, at, size, 0, api.ErrShort)
					continue
				}
				var eight [8]byte
				copy(eight[8-size:], b[at:])
				wantFix(t, b, at, size, binary.BigEndian.Uint64(eight[:]), api.OK)
			}
		}
	}
	wantFix(t, strings.Repeat("\xff", 8), 0, 8, math.MaxUint64, api.OK)
}

func TestFixOfNoSizeOrPlace(t *testing.T) {
	for _, b := range []string{"", "\x01", strings.Repeat("\x01", 20)} {
		for _, size := range append([]int{0, 9, 10}, edges...) {
			for _, at := range []int{-1, 0, len(b), len(b) + 1} {
				wantFix(t, b, at, size, 0, api.ErrRange)
			}
		}
		for _, at := range append([]int{len(b) + 1, len(b) + 2}, edges...) {
			for _, size := range []int{-1, 0, 1, 8, 9} {
				wantFix(t, b, at, size, 0, api.ErrRange)
			}
		}
	}
}

// readVar is Var(b, 0) by the look of the bytes: how many have the highest bit in a row, what the next one is.
func readVar(b string) (uint64, int, api.Errno) {
	n := 0
	for n < len(b) && n < 9 && b[n] >= 0x80 {
		n++
	}
	switch {
	case n == len(b):
		return 0, 0, api.ErrShort
	case n == 9 && b[n] > 1:
		return 0, 0, api.ErrOver
	case n > 0 && b[n] == 0:
		return 0, 0, api.ErrForm
	}
	v := uint64(0)
	for i := n; i >= 0; i-- {
		v = v*128 + uint64(b[i]%128)
	}
	return v, n + 1, api.OK
}

func wantVar(t *testing.T, b string, at int, v uint64, end int, errno api.Errno) {
	t.Helper()
	if got, n, e := seal.Var(b, at); got != v || n != end || e != errno {
		t.Errorf("3.4: Var(%x, %d) = %d, %d, %d, want %d, %d, %d", b, at, got, n, e, v, end, errno)
	}
}

// wantRead asks for what stands at the beginning of a text, there and behind other bytes.
func wantRead(t *testing.T, b string) {
	t.Helper()
	v, end, e := readVar(b)
	wantVar(t, b, 0, v, end, e)
	if e == api.OK {
		end += 3
	}
	wantVar(t, "\x80\x00\x81"+b, 3, v, end, e)
}

// someNumbers are the edges of each length that a number can have, and others.
func someNumbers() []uint64 {
	g := &texts{36}
	numbers := []uint64{0, 1, 127, 128, 300, math.MaxUint64 - 1, math.MaxUint64}
	for bit := range 64 {
		numbers = append(numbers, 1<<bit-1, 1<<bit, 1<<bit+1, g.next()>>bit)
	}
	return numbers
}

func TestPutVar(t *testing.T) {
	for v, want := range map[uint64]string{0: "00", 300: "ac 02", math.MaxUint64: strings.Repeat("ff", 9) + "01"} {
		if got := seal.PutVar(v); got != raw(t, want) {
			t.Errorf("3.4: PutVar(%d) = %x, want %s", v, got, want)
		}
	}
	for _, v := range someNumbers() {
		b := seal.PutVar(v)
		if want := string(binary.AppendUvarint(nil, v)); b != want {
			t.Errorf("3.4: PutVar(%d) = %x, want %x", v, b, want)
		}
		wantVar(t, b, 0, v, len(b), api.OK)
		wantVar(t, "\xff\xff"+b+"\x80\x00", 2, v, 2+len(b), api.OK)
		for cut := range len(b) {
			wantVar(t, b[:cut], 0, 0, 0, api.ErrShort)
		}
	}
}

func TestVar(t *testing.T) {
	full := strings.Repeat("\xff", 9)
	wantVar(t, "\xac\x02", 0, 300, 2, api.OK)
	wantVar(t, "\x80", 0, 0, 0, api.ErrShort)
	wantVar(t, "\x80\x00", 0, 0, 0, api.ErrForm)
	wantVar(t, full+"\x02", 0, 0, 0, api.ErrOver)
	wantVar(t, "\x00", 1, 0, 0, api.ErrShort)
	wantVar(t, "\x00", 2, 0, 0, api.ErrRange)
	for a := range 256 {
		wantRead(t, string([]byte{byte(a)}))
		for b := range 256 {
			wantRead(t, string([]byte{byte(a), byte(b)}))
		}
	}
	g := &texts{37}
	for n := range 12 {
		high := []byte(g.text(n))
		for i := range high {
			high[i] |= 0x80
		}
		for last := range 256 {
			wantRead(t, string(high)+string([]byte{byte(last)}))
			wantRead(t, strings.Repeat("\x80", n)+string([]byte{byte(last), 0}))
			wantRead(t, strings.Repeat("\xff", n)+string([]byte{byte(last), 1}))
		}
	}
}

func TestVarOfNoPlace(t *testing.T) {
	for _, b := range []string{"", "\x00", "\x80", strings.Repeat("\xff", 9) + "\x02"} {
		for _, at := range append([]int{len(b) + 1, len(b) + 2}, edges...) {
			wantVar(t, b, at, 0, 0, api.ErrRange)
		}
		wantVar(t, b, len(b), 0, 0, api.ErrShort)
	}
}

// lowest is a sum as frames have it.
func lowest(sum uint32) string {
	return string(binary.LittleEndian.AppendUint32(nil, sum))
}

// headOf is a frame's first ten bytes, with any kind and any length in it.
func headOf(kind byte, length uint32) string {
	six := string(binary.BigEndian.AppendUint32([]byte{0xa7, kind}, length))
	return six + lowest(byBits(0, six))
}

// framed is 3.5 word by word.
func framed(kind byte, payload string) string {
	head := headOf(kind, uint32(len(payload)))
	return head + payload + lowest(byBits(0, head[:6]+payload))
}

// frame is a frame that cannot be refused.
func frame(t *testing.T, kind int, payload string) string {
	t.Helper()
	f, e := seal.Frame(kind, payload)
	if e != api.OK || len(f) != 14+len(payload) {
		t.Fatalf("3.6: Frame(%d, %d bytes): %d bytes, %d", kind, len(payload), len(f), e)
	}
	return f
}

// someFrames have payloads of many lengths, among them such as look like frames.
func someFrames(t *testing.T) []string {
	t.Helper()
	g := &texts{38}
	frames := []string{frame(t, 1, "ab"), frame(t, 2, ""), frame(t, 255, "\xa7"), frame(t, 167, "\x00\x00\x00\x00")}
	frames = append(frames, frame(t, 7, frames[0]), frame(t, 1, frames[1]+frames[1]))
	for n := range 30 {
		frames = append(frames, frame(t, 1+g.below(255), g.text(n)))
	}
	return frames
}

func TestFrame(t *testing.T) {
	if f := frame(t, 1, "ab"); f[:6] != raw(t, "a7 01 00 00 00 02") || f[10:12] != "ab" || len(f) != 16 {
		t.Errorf("3.5: Frame(1, ab) = %x", f)
	}
	g := &texts{39}
	for kind := 1; kind <= 255; kind++ {
		payload := g.text(g.below(40))
		if got, want := frame(t, kind, payload), framed(byte(kind), payload); got != want {
			t.Errorf("3.5: Frame(%d, %x) = %x, want %x", kind, payload, got, want)
		}
	}
	for _, n := range []int{0, 1, 255, 256, 257, 65535, 65536} {
		payload := g.text(n)
		if frame(t, 3, payload) != framed(3, payload) {
			t.Errorf("3.5: Frame(3, %d bytes) is another", n)
		}
	}
}

func TestFrameRefuses(t *testing.T) {
	most := strings.Repeat("x", api.MaxPayload)
	for _, kind := range append([]int{0, 256, 257, 511, 512}, edges...) {
		for _, payload := range []string{"", "ab", most, most + "x"} {
			if f, e := seal.Frame(kind, payload); f != "" || e != api.ErrKind {
				t.Errorf("3.6: Frame(%d, %d bytes): %d bytes, %d, want ErrKind", kind, len(payload), len(f), e)
			}
		}
	}
	for _, kind := range []int{1, 2, 255} {
		for _, more := range []int{1, 2, 65536, 1 << 20} {
			if f, e := seal.Frame(kind, most+strings.Repeat("x", more)); f != "" || e != api.ErrBig {
				t.Errorf("3.6: Frame(%d, %d and %d bytes): %d bytes, %d, want ErrBig", kind, len(most), more, len(f), e)
			}
		}
	}
}

// parsed is 3.7's list, refusal by refusal, of the text from the place on.
func parsed(s string) (int, string, int, api.Errno) {
	if len(s) == 0 {
		return 0, "", 0, api.ErrShort
	}
	if s[0] != 0xa7 {
		return 0, "", 0, api.ErrMagic
	}
	if len(s) < 10 {
		return 0, "", 0, api.ErrShort
	}
	if s[6:10] != lowest(byBits(0, s[:6])) {
		return 0, "", 0, api.ErrSum
	}
	if s[1] == 0 {
		return 0, "", 0, api.ErrKind
	}
	length := int64(binary.BigEndian.Uint32([]byte(s[2:6])))
	if length > 65536 {
		return 0, "", 0, api.ErrBig
	}
	if int64(len(s)-10) < length+4 {
		return 0, "", 0, api.ErrShort
	}
	end := 10 + int(length)
	if s[end:end+4] != lowest(byBits(0, s[:6]+s[10:end])) {
		return 0, "", 0, api.ErrSum
	}
	return int(s[1]), s[10:end], end + 4, api.OK
}

func wantParse(t *testing.T, b string, at, kind int, payload string, end int, errno api.Errno) {
	t.Helper()
	k, p, n, e := seal.Parse(b, at)
	if k != kind || p != payload || n != end || e != errno {
		t.Errorf("3.7: Parse(%.40x, %d) = %d, %.40x, %d, %d, want %d, %.40x, %d, %d", b, at, k, p, n, e, kind, payload, end, errno)
	}
}

func wantParsed(t *testing.T, b string, at int) {
	t.Helper()
	kind, payload, end, e := parsed(b[at:])
	if e == api.OK {
		end += at
	}
	wantParse(t, b, at, kind, payload, end, e)
}

func TestParse(t *testing.T) {
	ab := frame(t, 1, "ab")
	wantParse(t, "", 0, 0, "", 0, api.ErrShort)
	wantParse(t, "", 1, 0, "", 0, api.ErrRange)
	wantParse(t, "\xb8", 0, 0, "", 0, api.ErrMagic)
	wantParse(t, "\xa7", 0, 0, "", 0, api.ErrShort)
	wantParse(t, ab[:15], 0, 0, "", 0, api.ErrShort)
	wantParse(t, ab+ab, 0, 1, "ab", 16, api.OK)
	wantParse(t, ab+ab, 16, 1, "ab", 32, api.OK)
	wantParse(t, ab+ab, 32, 0, "", 0, api.ErrShort)
	for _, f := range someFrames(t) {
		for at := range len(f) + 1 {
			wantParsed(t, f, at)
			wantParsed(t, f+f, at)
			wantParsed(t, f[:at], 0)
		}
	}
	most := strings.Repeat("y", api.MaxPayload)
	wantParse(t, "z"+framed(9, most)+"z", 1, 9, most, 65551, api.OK)
}

func TestParseOfNoPlace(t *testing.T) {
	for _, b := range []string{"", "\xa7", "\xb8", frame(t, 1, "ab"), framed(0, "")} {
		for _, at := range append([]int{len(b) + 1, len(b) + 2}, edges...) {
			wantParse(t, b, at, 0, "", 0, api.ErrRange)
		}
	}
}

func TestParseRefusesInOrder(t *testing.T) {
	long := strings.Repeat("\x00", api.MaxPayload+20)
	noSum := func(s string) string { return turned(s, []int{8*6 + 3}) }
	for _, c := range []struct {
		name, b string
		errno   api.Errno
	}{
		{"another mark, too short", "\x00\x01", api.ErrMagic},
		{"another mark, nothing right", strings.Repeat("\x01", 30), api.ErrMagic},
		{"nine bytes of a head", headOf(1, 0)[:9], api.ErrShort},
		{"nine bytes, wrong", "\xa7" + strings.Repeat("\x00", 8), api.ErrShort},
		{"ten bytes, wrong", "\xa7" + strings.Repeat("\x00", 9), api.ErrSum},
		{"the head sum, kind 0", noSum(headOf(0, 0)) + "1234", api.ErrSum},
		{"the head sum, too long", noSum(headOf(1, 65537)) + long, api.ErrSum},
		{"the head sum, too short", noSum(headOf(1, 5)), api.ErrSum},
		{"the head sum, greatest byte first", framed(1, "")[:6] + "\x00\x00\x00\x00" + framed(1, "")[10:], api.ErrSum},
		{"kind 0, whole", framed(0, "ab"), api.ErrKind},
		{"kind 0, too short", headOf(0, 5), api.ErrKind},
		{"kind 0, too long", headOf(0, 65537) + long, api.ErrKind},
		{"too long, too short", headOf(1, 65537), api.ErrBig},
		{"too long, bytes there", headOf(1, 65537) + long, api.ErrBig},
		{"as long as can be said", headOf(1, math.MaxUint32) + long, api.ErrBig},
		{"the sign bit of the length", headOf(1, 1<<31) + long, api.ErrBig},
		{"the most, no bytes", headOf(1, 65536), api.ErrShort},
		{"the most, one missing", (headOf(1, 65536) + long)[:10+65536+3], api.ErrShort},
		{"the most, wrong", (headOf(1, 65536) + long)[:10+65536+4], api.ErrSum},
		{"no payload, no sum", headOf(1, 0), api.ErrShort},
		{"no payload, a byte missing", framed(1, "")[:13], api.ErrShort},
		{"a payload, but no sum", framed(1, "payload")[:17], api.ErrShort},
		{"a payload with four bytes in all", headOf(1, 7) + "1234", api.ErrShort},
		{"a byte missing, wrong", headOf(1, 2) + "abcde", api.ErrShort},
		{"the body sum", headOf(1, 2) + "abcdef", api.ErrSum},
		{"the body sum of the payload alone", headOf(1, 2) + "ab" + lowest(byBits(0, "ab")), api.ErrSum},
		{"the body sum with the head's", headOf(1, 2) + "ab" + lowest(byBits(0, headOf(1, 2)+"ab")), api.ErrSum},
	} {
		kind, payload, end, e := seal.Parse(c.b, 0)
		if kind != 0 || payload != "" || end != 0 || e != c.errno {
			t.Errorf("3.7: %s: %d, %x, %d, %d, want %d", c.name, kind, payload, end, e, c.errno)
		}
		wantParsed(t, c.b, 0)
	}
}

func TestParseOfHeadsWithAnySize(t *testing.T) {
	g := &texts{40}
	behind := g.text(100)
	for range 2000 {
		size := uint32(g.next()) >> g.below(32)
		b := headOf(byte(g.below(3)), size) + behind[:g.below(100)]
		wantParsed(t, b, 0)
		wantParsed(t, "\xa7"+b, 1)
	}
}

func wantFrames(t *testing.T, promise, b string, frames []api.Framed, end int) {
	t.Helper()
	got, n := seal.Frames(b)
	if !slices.Equal(got, frames) || n != end {
		t.Fatalf("%s: Frames(%.80x) = %x, %d, want %x, %d", promise, b, got, n, frames, end)
	}
}

func TestFrames(t *testing.T) {
	one, two := frame(t, 1, "ab"), frame(t, 2, "")
	both := []api.Framed{{Kind: 1, Payload: "ab"}, {Kind: 2, At: 16}}
	wantFrames(t, "3.8", "", nil, 0)
	wantFrames(t, "3.8", "x", nil, 0)
	wantFrames(t, "3.8", "x"+one, nil, 0)
	wantFrames(t, "3.8", one+two, both, 30)
	wantFrames(t, "3.8", one+two+one[:9], both, 30)
	wantFrames(t, "3.8", one+two+"x"+one+two, both, 30)
	wantFrames(t, "3.8", one+two+framed(0, "")+one, both, 30)
	wantFrames(t, "3.8", one+two+headOf(3, 65537)+one, both, 30)
	wantFrames(t, "3.8", one+two+turned(one, []int{90})+one, both, 30)
}

func TestFramesOfMany(t *testing.T) {
	g := &texts{41}
	var b strings.Builder
	var want []api.Framed
	for i := range 300 {
		payload := g.text(g.below(20))
		want = append(want, api.Framed{Kind: 1 + i%255, Payload: payload, At: b.Len()})
		b.WriteString(framed(byte(1+i%255), payload))
		wantFrames(t, "3.8", b.String(), want, b.Len())
	}
}

func TestFramesAreNew(t *testing.T) {
	b := strings.Repeat(framed(1, "ab"), 3)
	first, _ := seal.Frames(b)
	second, _ := seal.Frames(b)
	if len(first) != 3 || len(second) != 3 {
		t.Fatalf("3.8: %d and %d frames, want 3", len(first), len(second))
	}
	clear(first[:cap(first)])
	if want := (api.Framed{Kind: 1, Payload: "ab", At: 16}); second[1] != want {
		t.Errorf("3.8: the lists of two calls share memory: %v", second)
	}
	third, _ := seal.Frames(b)
	if !slices.Equal(second, third) {
		t.Errorf("3.8: a list that was changed is told again: %v", third)
	}
}

func TestPayloadsAreNew(t *testing.T) {
	b := framed(1, strings.Repeat("p", 100))
	_, payload, _, e := seal.Parse(b, 0)
	frames, _ := seal.Frames(b)
	if e != api.OK || len(frames) != 1 {
		t.Fatalf("3.7: Parse: %d, Frames: %v", e, frames)
	}
	from := uintptr(unsafe.Pointer(unsafe.StringData(b)))
	for _, p := range []string{payload, frames[0].Payload} {
		if place := uintptr(unsafe.Pointer(unsafe.StringData(p))); place >= from && place < from+uintptr(len(b)) {
			t.Error("3.7: a payload shares memory with the text that it was read from")
		}
	}
}

func TestParseUndoesFrame(t *testing.T) {
	g := &texts{42}
	for kind := 1; kind <= 255; kind++ {
		payload, ahead, behind := g.text(g.below(60)), g.text(g.below(5)), g.text(g.below(20))
		f := frame(t, kind, payload)
		k, p, end, e := seal.Parse(ahead+f+behind, len(ahead))
		if k != kind || p != payload || end != len(ahead)+len(f) || e != api.OK {
			t.Errorf("3.9: Parse of Frame(%d, %x) = %d, %x, %d, %d", kind, payload, k, p, end, e)
		}
	}
}

func TestWhatParseTakesIsAFrame(t *testing.T) {
	g := &texts{43}
	frames := someFrames(t)
	taken := 0
	for range 20000 {
		b := []byte(frames[g.below(len(frames))] + frames[g.below(len(frames))] + frames[g.below(len(frames))])
		for range g.below(3) {
			b[g.below(len(b))] = byte(g.next())
		}
		at := g.below(len(b))
		if g.below(2) == 0 {
			at = max(0, bytes.IndexByte(b, 0xa7))
		}
		kind, payload, end, e := seal.Parse(string(b), at)
		if e != api.OK {
			continue
		}
		taken++
		if f, e := seal.Frame(kind, payload); e != api.OK || end < at || end > len(b) || f != string(b[at:end]) {
			t.Fatalf("3.9: Parse took %x for the frame of %d, %x", b[at:], kind, payload)
		}
	}
	if taken < 1000 {
		t.Errorf("3.9: just %d frames were taken", taken)
	}
}

func TestNoFrameBeginsAnother(t *testing.T) {
	frames := someFrames(t)
	for i, a := range frames {
		for j, b := range frames {
			if i != j && strings.HasPrefix(b, a) {
				t.Errorf("3.9: the frame %x begins with the frame %x", b, a)
			}
		}
	}
}

func TestTornFramesAreTold(t *testing.T) {
	one, two := frame(t, 1, "ab"), frame(t, 2, "")
	whole := []api.Framed{{Kind: 1, Payload: "ab"}, {Kind: 2, At: 16}}
	for _, f := range someFrames(t) {
		wantFrames(t, "3.10", one+two+f[:0], whole, 30)
		for left := 1; left < len(f); left++ {
			for last := range 256 {
				torn := f[:left-1] + string([]byte{byte(last)})
				if kind, payload, end, e := seal.Parse(torn, 0); kind != 0 || payload != "" || end != 0 || e == api.OK {
					t.Fatalf("3.10: Parse of the torn frame %x = %d, %x, %d, %d", torn, kind, payload, end, e)
				}
				wantFrames(t, "3.10", one+two+torn, whole, 30)
			}
		}
	}
}

func TestSpoiltFramesAreTold(t *testing.T) {
	g := &texts{44}
	noise := g.text(70000) // enough for a length that was spoilt
	for _, f := range []string{frame(t, 1, ""), frame(t, 1, "a"), frame(t, 167, "payload of some bytes"), frame(t, 9, strings.Repeat("\x00", 17))} {
		for _, behind := range []string{"", f, strings.Repeat("\x00", 300), noise} {
			eachBurst(f, func(spoilt string, places []int) {
				if kind, payload, end, e := seal.Parse(spoilt+behind, 0); kind != 0 || payload != "" || end != 0 || e == api.OK {
					t.Fatalf("3.11: the frame %x with the bits %v turned, %d bytes behind it: %d, %.40x, %d, %d", f, places, len(behind), kind, payload, end, e)
				}
			})
		}
	}
}
