package masks_test

import (
	"fmt"
	"math"
	"math/big"
	"math/bits"
	"strconv"
	"strings"
	"testing"

	"kindred/api"
	"kindred/masks"
)

// edges are numbers with which sums, differences and shifts wrap.
var edges = []int{math.MinInt, math.MinInt + 1, math.MinInt + 64, -1 << 62, -1 << 32, -256, -65, -64, -63, -2, -1, 65, 66, 127, 128, 256, 1 << 16, 1 << 32, 1<<32 + 4, 1 << 61, 1 << 62, math.MaxInt - 64, math.MaxInt - 1, math.MaxInt}

// over is n over s as the library has it, for any n of bits and any s.
func over(n, s int) int {
	if s < 0 || s > n {
		return 0
	}
	return int(new(big.Int).Binomial(int64(n), int64(s)).Int64())
}

// upto is what 2.2 asks for, by numbers that never wrap.
func upto(n, s, most int) int {
	sum := new(big.Int)
	for w := 0; w <= n && w <= s; w++ {
		sum.Add(sum, big.NewInt(int64(over(n, w))))
	}
	if sum.Cmp(big.NewInt(int64(most))) > 0 {
		return most
	}
	return int(sum.Int64())
}

// shell are the masks of n bits with s ones, found by looking at every number.
func shell(n, s int) []uint64 {
	var out []uint64
	for x := uint64(0); x < 1<<n; x++ {
		if bits.OnesCount64(x) == s {
			out = append(out, x)
		}
	}
	return out
}

// behind is the next mask of n bits as digits have it: the next greater order of the same digits.
func behind(n int, mask uint64) (uint64, bool) {
	d := digits(n, mask)
	i := strings.LastIndex(d, "01")
	if i < 0 {
		return 0, false
	}
	tail := d[i+2:]
	ones := strings.Count(tail, "1")
	d = d[:i] + "10" + strings.Repeat("0", len(tail)-ones) + strings.Repeat("1", ones)
	next, err := strconv.ParseUint(d, 2, 64)
	if err != nil {
		panic(err)
	}
	return next, true
}

// digits writes a mask with n bits, the highest first.
func digits(n int, mask uint64) string {
	if n == 0 {
		return ""
	}
	return fmt.Sprintf("%0*b", n, mask)
}

// below is how many masks of its weight are below a mask, by taking away its highest one again and again.
func below(mask uint64) int {
	if mask == 0 {
		return 0
	}
	top := bits.Len64(mask) - 1
	return over(top, bits.OnesCount64(mask)) + below(mask&^(1<<top))
}

// numbers makes numbers that look like no pattern, the same ones each time.
type numbers struct{ state uint64 }

func (t *numbers) next() uint64 {
	t.state += 0x9e3779b97f4a7c15
	z := t.state
	z = (z ^ z>>30) * 0xbf58476d1ce4e5b9
	z = (z ^ z>>27) * 0x94d049bb133111eb
	return z ^ z>>31
}

// samples are masks of n bits of every kind: with few ones, with many, with ones in a row, with the top one set.
func samples(n int) []uint64 {
	all := uint64(1)<<n - 1
	out := []uint64{0, all}
	for i := range n {
		out = append(out, 1<<i, all>>i, all>>i<<i, all&^(1<<i))
	}
	gen := &numbers{uint64(n)}
	for range 100 {
		a, b, c := gen.next(), gen.next(), gen.next()
		out = append(out, a&all, a&b&all, (a|b)&all, a&b&c&all, (a|b|c)&all, (a|1<<63>>(64-n))&all)
	}
	return out
}

// eachShell calls f for every number of bits and every weight that goes with it.
func eachShell(most int, f func(n, s int)) {
	for n := 0; n <= most; n++ {
		for s := 0; s <= n; s++ {
			f(n, s)
		}
	}
}

func wantCount(t *testing.T, n, s, count int, errno api.Errno) {
	t.Helper()
	if c, e := masks.Count(n, s); c != count || e != errno {
		t.Errorf("2.1: Count(%d, %d) = %d, %d, want %d, %d", n, s, c, e, count, errno)
	}
}

func TestCount(t *testing.T) {
	for n := 0; n <= 64; n++ {
		for s := -3; s <= 67; s++ {
			wantCount(t, n, s, over(n, s), api.OK)
		}
		for _, s := range edges {
			wantCount(t, n, s, over(n, s), api.OK)
		}
	}
	wantCount(t, 4, 2, 6, api.OK)
	wantCount(t, 64, 31, 1777090076065542336, api.OK)
	wantCount(t, 64, 32, 1832624140942590534, api.OK)
	wantCount(t, 64, 33, 1777090076065542336, api.OK)
	eachShell(13, func(n, s int) { wantCount(t, n, s, len(shell(n, s)), api.OK) })
}

func TestCountOfNoBits(t *testing.T) {
	for _, n := range edges {
		for _, s := range append([]int{0, 1, 32, 64}, edges...) {
			wantCount(t, n, s, 0, api.ErrBits)
		}
	}
}

func wantUpto(t *testing.T, n, s, most, count int, errno api.Errno) {
	t.Helper()
	if c, e := masks.Upto(n, s, most); c != count || e != errno {
		t.Errorf("2.2: Upto(%d, %d, %d) = %d, %d, want %d, %d", n, s, most, c, e, count, errno)
	}
}

func TestUpto(t *testing.T) {
	const far = 1 << 62
	for n := 0; n <= 64; n++ {
		for s := -2; s <= n+2; s++ {
			all := upto(n, s, far)
			for _, most := range []int{0, 1, 2, all - 2, all - 1, all, all + 1, all + 2, far - 1, far} {
				if most >= 0 && most <= far {
					wantUpto(t, n, s, most, upto(n, s, most), api.OK)
				}
			}
		}
		for _, s := range edges {
			wantUpto(t, n, s, 1000, upto(n, s, 1000), api.OK)
			wantUpto(t, n, s, far, upto(n, s, far), api.OK)
		}
	}
	wantUpto(t, 4, 1, 100, 5, api.OK)
	wantUpto(t, 4, 1, 5, 5, api.OK)
	wantUpto(t, 4, 1, 4, 4, api.OK)
	wantUpto(t, 62, 62, far, far, api.OK)
	wantUpto(t, 62, 61, far, far-1, api.OK)
	wantUpto(t, 63, 31, far, far, api.OK)
	wantUpto(t, 63, 31, far-1, far-1, api.OK)
	wantUpto(t, 64, 64, far, far, api.OK)
	wantUpto(t, 64, -1, far, 0, api.OK)
}

func TestUptoRefuses(t *testing.T) {
	for _, n := range edges {
		for _, s := range []int{math.MinInt, -1, 0, 1, 64, math.MaxInt} {
			for _, most := range []int{math.MinInt, -1, 0, 100, 1 << 62, 1<<62 + 1, math.MaxInt} {
				wantUpto(t, n, s, most, 0, api.ErrBits)
			}
		}
	}
	for _, n := range []int{0, 1, 4, 63, 64} {
		for _, s := range []int{math.MinInt, -1, 0, 1, 4, 64, 65, math.MaxInt} {
			for _, most := range []int{math.MinInt, -1 << 62, -2, -1, 1<<62 + 1, 1<<62 + 2, math.MaxInt} {
				wantUpto(t, n, s, most, 0, api.ErrRange)
			}
		}
	}
}

func wantFirst(t *testing.T, n, s int, mask uint64, there bool) {
	t.Helper()
	if m, ok := masks.First(n, s); m != mask || ok != there {
		t.Errorf("2.3: First(%d, %d) = %b, %v, want %b, %v", n, s, m, ok, mask, there)
	}
}

func TestFirst(t *testing.T) {
	eachShell(12, func(n, s int) { wantFirst(t, n, s, shell(n, s)[0], true) })
	for n := 0; n <= 64; n++ {
		least := uint64(0)
		for s := 0; s <= n; s++ {
			wantFirst(t, n, s, least, true)
			least = least<<1 | 1
		}
		for _, s := range []int{math.MinInt, -64, -2, -1, n + 1, n + 2, 65, 128, 1 << 32, math.MaxInt} {
			wantFirst(t, n, s, 0, false)
		}
	}
	wantFirst(t, 64, 64, math.MaxUint64, true)
	wantFirst(t, 64, 63, math.MaxUint64>>1, true)
	for _, n := range edges {
		for _, s := range append([]int{0, 1, 64}, edges...) {
			wantFirst(t, n, s, 0, false)
		}
	}
}

func wantNext(t *testing.T, n int, mask, next uint64, there bool) {
	t.Helper()
	if m, ok := masks.Next(n, mask); m != next || ok != there {
		t.Errorf("2.4: Next(%d, %b) = %b, %v, want %b, %v", n, mask, m, ok, next, there)
	}
}

func TestNext(t *testing.T) {
	for n := 0; n <= 64; n++ {
		for _, mask := range samples(n) {
			next, there := behind(n, mask)
			wantNext(t, n, mask, next, there)
		}
	}
	for _, c := range []struct {
		n          int
		mask, next uint64
		there      bool
	}{
		{4, 3, 5, true}, {4, 5, 6, true}, {4, 6, 9, true}, {4, 12, 0, false}, {4, 0, 0, false}, {5, 12, 17, true},
		{0, 0, 0, false}, {1, 1, 0, false}, {2, 1, 2, true}, {64, 0, 0, false},
		{64, 1 << 63, 0, false}, {64, 1 << 62, 1 << 63, true}, {63, 1 << 62, 0, false}, {64, 1<<63 + 1, 1<<63 + 2, true},
		{64, 3 << 62, 0, false}, {64, 1<<63 | 1<<61, 3 << 62, true}, {63, 1<<62 - 1, 1<<62 | (1<<61 - 1), true},
		{64, math.MaxUint64, 0, false}, {64, math.MaxUint64 - 1, 0, false}, {64, math.MaxUint64 >> 1, math.MaxUint64 &^ (1 << 62), true},
	} {
		wantNext(t, c.n, c.mask, c.next, c.there)
	}
}

func TestNextOfNoSuchMask(t *testing.T) {
	for n := 0; n < 64; n++ {
		for _, mask := range []uint64{1 << n, 1<<n | 1, 1<<n | 1<<n>>1, 1 << 63, 1<<63 | 1, 1<<63 | 5, math.MaxUint64 << n, math.MaxUint64} {
			wantNext(t, n, mask, 0, false)
		}
	}
	for _, n := range edges {
		for _, mask := range []uint64{0, 1, 2, 3, 12, 1 << 31, 1 << 62, 1 << 63, math.MaxUint64 >> 1, math.MaxUint64} {
			wantNext(t, n, mask, 0, false)
		}
	}
}

func wantRank(t *testing.T, mask uint64, rank int) {
	t.Helper()
	if r := masks.Rank(mask); r != rank {
		t.Errorf("2.5: Rank(%b) = %d, want %d", mask, r, rank)
	}
}

func TestRank(t *testing.T) {
	seen := [65]int{}
	for x := uint64(0); x < 1<<13; x++ {
		w := bits.OnesCount64(x)
		wantRank(t, x, seen[w])
		seen[w]++
	}
	for n := 0; n <= 64; n++ {
		for _, mask := range samples(n) {
			wantRank(t, mask, below(mask))
		}
	}
	wantRank(t, 1<<63, 63)
	wantRank(t, 1<<63|1, 63*62/2)
	wantRank(t, math.MaxUint64, 0)
	wantRank(t, math.MaxUint64-1, 63)
	wantRank(t, math.MaxUint64>>1, 0)
	wantRank(t, 1<<64-1<<32, 1832624140942590533)
	wantRank(t, math.MaxUint64>>32, 0)
}

func wantUnrank(t *testing.T, n, s, rank int, mask uint64, errno api.Errno) {
	t.Helper()
	if m, e := masks.Unrank(n, s, rank); m != mask || e != errno {
		t.Errorf("2.6: Unrank(%d, %d, %d) = %b, %d, want %b, %d", n, s, rank, m, e, mask, errno)
	}
}

func TestUnrank(t *testing.T) {
	eachShell(11, func(n, s int) {
		for rank, mask := range shell(n, s) {
			wantUnrank(t, n, s, rank, mask, api.OK)
		}
	})
	for n := 0; n <= 64; n++ {
		for _, mask := range samples(n) {
			wantUnrank(t, n, bits.OnesCount64(mask), below(mask), mask, api.OK)
		}
	}
	eachShell(64, func(n, s int) {
		wantUnrank(t, n, s, 0, uint64(1)<<s-1, api.OK)
		wantUnrank(t, n, s, over(n, s)-1, (uint64(1)<<s-1)<<(n-s), api.OK)
	})
	wantUnrank(t, 64, 32, 1832624140942590533, 1<<64-1<<32, api.OK)
	wantUnrank(t, 64, 1, 63, 1<<63, api.OK)
	wantUnrank(t, 64, 64, 0, math.MaxUint64, api.OK)
	wantUnrank(t, 0, 0, 0, 0, api.OK)
}

func TestUnrankRefuses(t *testing.T) {
	eachShell(64, func(n, s int) {
		count := over(n, s)
		for _, rank := range []int{math.MinInt, -1 << 62, -count, -2, -1, count, count + 1, math.MaxInt} {
			wantUnrank(t, n, s, rank, 0, api.ErrRank)
		}
	})
	for n := 0; n <= 64; n++ {
		for _, s := range []int{math.MinInt, -64, -1, n + 1, 65, 66, 1 << 32, math.MaxInt} {
			for _, rank := range []int{math.MinInt, -1, 0, 1, math.MaxInt} {
				wantUnrank(t, n, s, rank, 0, api.ErrRank)
			}
		}
	}
	for _, n := range edges {
		for _, s := range append([]int{0, 1, 64}, edges...) {
			for _, rank := range []int{math.MinInt, -1, 0, 1, 63, math.MaxInt} {
				wantUnrank(t, n, s, rank, 0, api.ErrBits)
			}
		}
	}
}

// walk goes through a shell by First and Next, and looks at each mask that comes.
func walk(t *testing.T, n, s int) {
	t.Helper()
	count, e := masks.Count(n, s)
	if e != api.OK {
		t.Fatalf("2.7: Count(%d, %d) refuses: %d", n, s, e)
	}
	at, last := 0, uint64(0)
	for m, ok := masks.First(n, s); ok; m, ok = masks.Next(n, m) {
		if bits.OnesCount64(m) != s || bits.Len64(m) > n || at > 0 && m <= last {
			t.Fatalf("2.7: of %d bits, %d ones: behind %b comes %b", n, s, last, m)
		}
		if at == count {
			t.Fatalf("2.7: of %d bits, %d ones: more than %d masks", n, s, count)
		}
		if r := masks.Rank(m); r != at {
			t.Fatalf("2.7: of %d bits, %d ones: Rank(%b) is %d, and it is at %d", n, s, m, r, at)
		}
		if u, e := masks.Unrank(n, s, at); u != m || e != api.OK {
			t.Fatalf("2.7: Unrank(%d, %d, %d) = %b, %d, and %b is there", n, s, at, u, e, m)
		}
		at, last = at+1, m
	}
	if at != count {
		t.Errorf("2.7: of %d bits, %d ones: %d masks, want %d", n, s, at, count)
	}
}

func TestWalk(t *testing.T) {
	eachShell(11, func(n, s int) { walk(t, n, s) })
	for _, n := range []int{16, 31, 32, 33, 62, 63, 64} {
		for _, s := range []int{0, 1, 2, n - 2, n - 1, n} {
			walk(t, n, s)
		}
	}
	walk(t, 16, 8)
	walk(t, 32, 3)
	for _, n := range append([]int{0, 1, 64}, edges...) {
		for _, s := range edges {
			if m, ok := masks.First(n, s); ok && (n < 0 || n > 64 || s < 0 || s > n) {
				t.Errorf("2.7: First(%d, %d) = %b, though there is none", n, s, m)
			}
		}
	}
}

func TestThereAndBack(t *testing.T) {
	for n := 0; n <= 64; n++ {
		for _, mask := range samples(n) {
			s := bits.OnesCount64(mask)
			rank := masks.Rank(mask)
			if back, e := masks.Unrank(n, s, rank); back != mask || e != api.OK {
				t.Errorf("2.7: Unrank(%d, %d, Rank(%b)) = %b, %d", n, s, mask, back, e)
			}
			if next, ok := masks.Next(n, mask); ok && masks.Rank(next) != rank+1 {
				t.Errorf("2.7: Rank(%b) is %d, and behind it %b has %d", mask, rank, next, masks.Rank(next))
			}
		}
	}
	gen := &numbers{7}
	eachShell(64, func(n, s int) {
		count := over(n, s)
		for _, rank := range []int{0, count / 3, count / 2, count - 1, int(gen.next()>>1) % count} {
			mask, e := masks.Unrank(n, s, rank)
			if e != api.OK || bits.OnesCount64(mask) != s || bits.Len64(mask) > n || masks.Rank(mask) != rank {
				t.Errorf("2.7: Unrank(%d, %d, %d) = %b, %d, of Rank %d", n, s, rank, mask, e, masks.Rank(mask))
			}
		}
	})
}

// count is Count where it must not refuse.
func count(t *testing.T, n, s int) int {
	t.Helper()
	c, e := masks.Count(n, s)
	if e != api.OK {
		t.Fatalf("2.8: Count(%d, %d) refuses: %d", n, s, e)
	}
	return c
}

func TestShells(t *testing.T) {
	for n := 0; n <= 64; n++ {
		sum := new(big.Int)
		for s := 0; s <= n; s++ {
			sum.Add(sum, big.NewInt(int64(count(t, n, s))))
		}
		if sum.Cmp(new(big.Int).Lsh(big.NewInt(1), uint(n))) != 0 {
			t.Errorf("2.8: the Counts of %d bits make %v", n, sum)
		}
		for s := -2; s <= n+2; s++ {
			if a, b := count(t, n, s), count(t, n, n-s); a != b {
				t.Errorf("2.8: Count(%d, %d) is %d, Count(%d, %d) is %d", n, s, a, n, n-s, b)
			}
			if n < 1 || s < 1 {
				continue
			}
			if a, b := count(t, n, s), count(t, n-1, s)+count(t, n-1, s-1); a != b {
				t.Errorf("2.8: Count(%d, %d) is %d, the two of one bit less make %d", n, s, a, b)
			}
		}
	}
	const n = 10
	shells := [1 << n]int{}
	for s := range n + 1 {
		for m, ok := masks.First(n, s); ok && m < 1<<n && shells[m] < 2; m, ok = masks.Next(n, m) {
			shells[m]++
		}
	}
	for m, times := range shells {
		if times != 1 {
			t.Errorf("2.8: %b is in %d shells", m, times)
		}
	}
}
