package sign_test

import (
	"math"
	"slices"
	"strings"
	"testing"

	"kindred/api"
	"kindred/bits"
	"kindred/internal/sample"
	"kindred/sign"
)

// greatest is how far a part's numbers may be from 0 (19, words).
const greatest = 1 << 20

func made(t *testing.T, w, dims int, seed uint64) *sign.Signer {
	t.Helper()
	s, e := sign.New(w, dims, seed)
	if s == nil || e != api.OK {
		t.Fatalf("19.1: New(%d, %d, %d): %d", w, dims, seed, e)
	}
	return s
}

// both are a vector's sums and code, which must be there.
func both(t *testing.T, s *sign.Signer, v []api.Part) ([]api.Part, string) {
	t.Helper()
	sums, e := s.Sums(v)
	code, why := s.Code(v)
	if e != api.OK || why != api.OK {
		t.Fatalf("19.2: a vector of %d parts is refused: %d, %d", len(v), e, why)
	}
	return sums, code
}

// checkVector holds what a signer answers against the model.
func checkVector(t *testing.T, s *sign.Signer, all [][]int, v []api.Part) {
	t.Helper()
	sums, code := both(t, s, v)
	want := sumsModel(all, v)
	if !slices.Equal(sums, want) {
		t.Fatalf("19.2: %d sums of %d parts are not the model's %d", len(sums), len(v), len(want))
	}
	if code != codeModel(want) {
		t.Fatalf("19.3: code %x of %d parts, want %x", code, len(v), codeModel(want))
	}
}

// checkRefused looks whether both calls refuse it so, with nothing beside.
func checkRefused(t *testing.T, s *sign.Signer, v []api.Part, want api.Errno) {
	t.Helper()
	sums, e := s.Sums(v)
	code, why := s.Code(v)
	if e != want || why != want || len(sums) != 0 || code != "" {
		t.Errorf("19.2: %d parts: %d sums, %d; %d bytes, %d; want %d", len(v), len(sums), e, len(code), why, want)
	}
}

// vectorOf is a made-up vector whose parts' numbers are from -most to most.
func vectorOf(x *sample.Source, dims, most int) []api.Part {
	v := make([]api.Part, dims)
	for k := range v {
		v[k] = api.Part{Re: x.Below(2*most+1) - most, Im: x.Below(2*most+1) - most}
	}
	return v
}

// each is a vector whose parts are made of another's one by one.
func each(v []api.Part, of func(p api.Part) api.Part) []api.Part {
	out := make([]api.Part, len(v))
	for k, p := range v {
		out[k] = of(p)
	}
	return out
}

func by(c int) func(p api.Part) api.Part {
	return func(p api.Part) api.Part { return api.Part{Re: c * p.Re, Im: c * p.Im} }
}

func byI(p api.Part) api.Part { return turned(p, 1) }

func sum(a, b []api.Part) []api.Part {
	out := make([]api.Part, len(a))
	for k := range a {
		out[k] = add(a[k], b[k])
	}
	return out
}

// whole: no sum has a Re or an Im of 0.
func whole(sums []api.Part) bool {
	return !slices.ContainsFunc(sums, func(p api.Part) bool { return p.Re == 0 || p.Im == 0 })
}

func bit(t *testing.T, code string, i int) int {
	t.Helper()
	b, e := bits.Bit(code, i)
	if e != api.OK {
		t.Fatalf("a code of %d bytes has no bit %d", len(code), i)
	}
	return b
}

// seeds are those that chosen tests go through: both ends, some where adding wraps, and some between.
func seeds() []uint64 {
	return []uint64{0, 1, 7, 1 << 63, math.MaxUint64, math.MaxUint64 - 1, 0x9e3779b97f4a7c15, 0x61c8864680b583eb, 0x0123456789abcdef}
}

func TestExamples(t *testing.T) {
	for _, c := range []struct {
		w, dims int
		e       api.Errno
	}{{63, 1, api.ErrWidth}, {64, 0, api.ErrDims}, {64, 1025, api.ErrDims}, {64, 1024, api.OK}} {
		if s, e := sign.New(c.w, c.dims, 0); e != c.e || (s != nil) != (e == api.OK) {
			t.Errorf("New(%d, %d, 0): %d, want %d", c.w, c.dims, e, c.e)
		}
	}
	s := made(t, 64, 2, 0)
	checkRefused(t, s, []api.Part{{Re: 1}}, api.ErrDims)
	checkRefused(t, s, []api.Part{{Re: 1<<20 + 1}, {}}, api.ErrPart)
	checkRefused(t, s, []api.Part{{}, {Im: -1<<20 - 1}}, api.ErrPart)
	if _, code := both(t, s, []api.Part{{}, {}}); code != strings.Repeat("\x00", 8) {
		t.Errorf("the code of zeros is %x", code)
	}
	if sums, code := both(t, s, []api.Part{{Re: 3, Im: 1}, {Im: 2}}); sums[0] != (api.Part{Re: -1, Im: -3}) || code[0]&0xc0 != 0 {
		t.Errorf("sum 0 is %v, the code %x", sums[0], code)
	}
	units := []api.Part{{Im: -1}, {Im: 1}, {Re: 1}, {Im: -1}}
	four := made(t, 64, 4, 0)
	for k, want := range units {
		v := make([]api.Part, 4)
		v[k] = api.Part{Re: 1}
		if sums, _ := both(t, four, v); sums[0] != want {
			t.Errorf("u(0, %d) is %v, want %v", k, sums[0], want)
		}
	}
}

func TestNewRefuses(t *testing.T) {
	widths := []int{math.MinInt, math.MinInt + 64, -64, -1, math.MaxInt, math.MaxInt - 63, 1 << 32, 1<<32 + 64, 2048}
	for w := range 1200 {
		widths = append(widths, w)
	}
	counts := []int{math.MinInt, -1024, -1, 0, 1, 2, 512, 1023, 1024, 1025, 2048, 1<<32 + 1, math.MaxInt}
	for _, w := range widths {
		for _, dims := range counts {
			want := api.OK
			if dims < 1 || dims > 1024 {
				want = api.ErrDims
			}
			if w < 64 || w > 1024 || w%64 != 0 {
				want = api.ErrWidth
			}
			s, e := sign.New(w, dims, uint64(w))
			if e != want || (s != nil) != (want == api.OK) {
				t.Fatalf("19.1: New(%d, %d): %d, want %d", w, dims, e, want)
			}
		}
	}
}

func TestLengths(t *testing.T) {
	for _, dims := range []int{1, 2, 3, 64, 1023, 1024} {
		s := made(t, 64, dims, 5)
		for _, n := range []int{0, 1, 2, 3, 4, 63, 64, 65, 1022, 1023, 1024, 1025, 5000} {
			v := make([]api.Part, n)
			if n == dims {
				both(t, s, v)
				continue
			}
			checkRefused(t, s, v, api.ErrDims)
			if n > 0 {
				// a part that would be refused, too: the length is asked first
				v[n-1].Re = greatest + 1
				checkRefused(t, s, v, api.ErrDims)
			}
		}
		checkRefused(t, s, nil, api.ErrDims)
	}
}

func TestBoundsOfParts(t *testing.T) {
	numbers := []int{0, 1, -1, greatest - 1, greatest, greatest + 1, -greatest + 1, -greatest, -greatest - 1, 1 << 32, -1 << 32, 1 << 53, math.MaxInt, math.MinInt, math.MinInt + 1}
	for _, dims := range []int{1, 3, 1024} {
		s := made(t, 64, dims, 11)
		all := directions(64, dims, 11)
		for _, k := range []int{0, dims / 2, dims - 1} {
			for _, re := range numbers {
				for _, im := range numbers {
					v := make([]api.Part, dims)
					v[k] = api.Part{Re: re, Im: im}
					if want := refusalModel(dims, v); want != api.OK {
						checkRefused(t, s, v, want)
					} else {
						checkVector(t, s, all, v)
					}
				}
			}
		}
	}
}

func TestUnits(t *testing.T) {
	one := api.Part{Re: 1}
	for _, seed := range seeds() {
		s := made(t, 1024, 9, seed)
		for k := range 9 {
			v := make([]api.Part, 9)
			v[k] = one
			sums, _ := both(t, s, v)
			if len(sums) != 512 {
				t.Fatalf("19.2: %d sums", len(sums))
			}
			for j, u := range sums {
				if want := turned(one, turns(seed, j, k)); u != want {
					t.Fatalf("u(%d, %d) of the seed %d is %v, want %v", j, k, seed, u, want)
				}
			}
		}
	}
}

// The last place of the longest direction stands just ahead of the first of the next: each is a number of its own.
func TestLastPlaces(t *testing.T) {
	s := made(t, 1024, 1024, 3)
	for _, k := range []int{1, 1022, 1023} {
		v := make([]api.Part, 1024)
		v[k] = api.Part{Re: 2, Im: 1}
		sums, _ := both(t, s, v)
		for j, p := range sums {
			if want := turned(v[k], turns(3, j, k)); p != want {
				t.Fatalf("u(%d, %d): %v, want %v", j, k, p, want)
			}
		}
	}
}

// A direction hangs on its number and the seed, neither on the width nor on how many parts there are.
func TestDirectionsOfOneSeed(t *testing.T) {
	x := sample.From(19)
	for range 50 {
		dims := 1 + x.Below(40)
		more := dims + x.Below(40)
		w := 64 * (1 + x.Below(8))
		wider := w + 64*x.Below(8)
		seed := x.Next()
		v := vectorOf(x, dims, greatest)
		short, shortCode := both(t, made(t, w, dims, seed), v)
		long, longCode := both(t, made(t, wider, more, seed), append(slices.Clone(v), make([]api.Part, more-dims)...))
		if len(short) != w/2 || len(long) != wider/2 || !slices.Equal(short, long[:w/2]) || !strings.HasPrefix(longCode, shortCode) {
			t.Fatalf("19.2: New(%d, %d) and New(%d, %d) of the seed %d: not one direction", w, dims, wider, more, seed)
		}
	}
}

func TestMadeUpVectors(t *testing.T) {
	x := sample.From(1)
	for range 60 {
		w, dims, seed := 64*(1+x.Below(16)), 1+x.Below(24), x.Next()
		if x.Below(3) == 0 {
			seed = seeds()[x.Below(len(seeds()))]
		}
		s, all := made(t, w, dims, seed), directions(w, dims, seed)
		// small parts, too: many of their sums are 0
		for _, most := range []int{0, 1, 2, 100, greatest} {
			checkVector(t, s, all, vectorOf(x, dims, most))
		}
	}
}

func TestGreatestSigner(t *testing.T) {
	x := sample.From(2)
	s, all := made(t, 1024, 1024, 7), directions(1024, 1024, 7)
	checkVector(t, s, all, vectorOf(x, 1024, greatest))
	// vectors that point just along one direction, or just against it: its sum is the greatest that there is
	for _, j := range []int{0, 1, 255, 511} {
		for _, p := range []api.Part{{Re: greatest}, {Im: -greatest}, {Re: greatest, Im: greatest}, {Re: -greatest, Im: greatest}} {
			v := make([]api.Part, 1024)
			for k := range v {
				v[k] = turned(p, 4-all[j][k])
			}
			checkVector(t, s, all, v)
			if sums, _ := both(t, s, v); sums[j] != by(1024)(p) {
				t.Errorf("19.2: along direction %d the sum is %v, want 1024 times %v", j, sums[j], p)
			}
		}
	}
}

// 19.3 bit by bit, asked of layer 1.
func TestBitsOfCodes(t *testing.T) {
	x := sample.From(3)
	zeros := 0
	for range 100 {
		w, dims := 64*(1+x.Below(16)), 1+x.Below(6)
		v := vectorOf(x, dims, 2)
		sums, code := both(t, made(t, w, dims, x.Next()), v)
		if e := bits.Check(w, code); e != api.OK {
			t.Fatalf("19.3: no code of %d bits: %d", w, e)
		}
		for j, p := range sums {
			if (bit(t, code, 2*j) == 1) != (p.Re > 0) || (bit(t, code, 2*j+1) == 1) != (p.Im > 0) {
				t.Fatalf("19.3: sum %d is %v, bits %d and %d", j, p, bit(t, code, 2*j), bit(t, code, 2*j+1))
			}
			if p.Re == 0 || p.Im == 0 {
				zeros++
			}
		}
	}
	if zeros == 0 {
		t.Error("no sum of 0 was tried")
	}
}

func TestTwoSignersAnswerAlike(t *testing.T) {
	x := sample.From(4)
	for _, seed := range seeds() {
		a, b, other := made(t, 256, 12, seed), made(t, 256, 12, seed), made(t, 256, 12, seed+1)
		v := vectorOf(x, 12, greatest)
		sums, code := both(t, a, v)
		// what one was asked before does not count
		both(t, b, vectorOf(x, 12, greatest))
		checkRefused(t, b, v[:5], api.ErrDims)
		for range 2 {
			if again, c := both(t, b, v); !slices.Equal(sums, again) || code != c {
				t.Errorf("19.1: two signers of the seed %d are not alike", seed)
			}
		}
		if again, c := both(t, other, v); slices.Equal(sums, again) || code == c {
			t.Errorf("the seeds %d and %d have the same directions", seed, seed+1)
		}
	}
}

func TestListsAreNotShared(t *testing.T) {
	x := sample.From(5)
	s := made(t, 128, 10, 6)
	room := vectorOf(x, 20, greatest)
	before := slices.Clone(room)
	v := room[:10]
	sums, code := both(t, s, v)
	if !slices.Equal(room, before) {
		t.Error("19.4: a vector, or the room behind it, was changed")
	}
	want, wantCode := slices.Clone(sums), strings.Clone(code)
	second, _ := both(t, s, v)
	for j := range second {
		second[j] = api.Part{Re: 1 << 40}
	}
	if third, c := both(t, s, v); !slices.Equal(third, want) || c != wantCode || !slices.Equal(sums, want) {
		t.Error("19.2: two answers share memory")
	}
	clear(room)
	if !slices.Equal(sums, want) || code != wantCode {
		t.Error("19.4: an answer hangs on a vector that was changed behind the call")
	}
	if zeros, c := both(t, s, v); slices.ContainsFunc(zeros, func(p api.Part) bool { return p != api.Part{} }) || c != strings.Repeat("\x00", 16) {
		t.Error("19.4: the vector that was handed in before was kept")
	}
}

func TestSumsAddUp(t *testing.T) {
	x := sample.From(6)
	for range 100 {
		dims := 1 + x.Below(30)
		s := made(t, 64*(1+x.Below(16)), dims, x.Next())
		u, v := vectorOf(x, dims, greatest/2), vectorOf(x, dims, greatest/2)
		of, _ := both(t, s, u)
		and, _ := both(t, s, v)
		if got, _ := both(t, s, sum(u, v)); !slices.Equal(got, sum(of, and)) {
			t.Fatal("19.5: sums of u + v")
		}
		small := vectorOf(x, dims, 1000)
		some, _ := both(t, s, small)
		for _, c := range []int{0, 1, -1, 2, -3, 1048, -1048} {
			if got, _ := both(t, s, each(small, by(c))); !slices.Equal(got, each(some, by(c))) {
				t.Fatalf("19.5: sums of v times %d", c)
			}
		}
		if got, _ := both(t, s, each(u, byI)); !slices.Equal(got, each(of, byI)) {
			t.Fatal("19.5: sums of v times i")
		}
	}
}

func TestLengthDoesNotCount(t *testing.T) {
	x := sample.From(7)
	checked := 0
	for round := range 100 {
		dims, w := 1+x.Below(30), 64*(1+x.Below(16))
		s := made(t, w, dims, x.Next())
		// some with sums of 0, for which multiples above 0 hold, too
		v := vectorOf(x, dims, []int{1, 1000}[round%2])
		sums, code := both(t, s, v)
		for _, c := range []int{2, 3, 1000, 1048} {
			if _, got := both(t, s, each(v, by(c))); got != code {
				t.Fatalf("19.6: the code of v times %d is another", c)
			}
		}
		if !whole(sums) {
			continue
		}
		checked++
		_, negative := both(t, s, each(v, by(-1)))
		_, turn := both(t, s, each(v, byI))
		if d, e := bits.Distance(code, negative); d != w || e != api.OK {
			t.Fatalf("19.6: the code of the negative is %d bits away, want %d", d, w)
		}
		for j := range w / 2 {
			if bit(t, turn, 2*j) == bit(t, code, 2*j+1) || bit(t, turn, 2*j+1) != bit(t, code, 2*j) {
				t.Fatalf("19.6: the code of v times i, at %d", 2*j)
			}
		}
	}
	if checked < 20 {
		t.Errorf("only %d vectors without a sum of 0 were tried", checked)
	}
}

func TestWhatADistanceSays(t *testing.T) {
	x := sample.From(8)
	for range 100 {
		dims := 1 + x.Below(10)
		s := made(t, 64*(1+x.Below(16)), dims, x.Next())
		of, a := both(t, s, vectorOf(x, dims, 3))
		and, b := both(t, s, vectorOf(x, dims, 3))
		want := 0
		for j := range of {
			if (of[j].Re > 0) != (and[j].Re > 0) {
				want++
			}
			if (of[j].Im > 0) != (and[j].Im > 0) {
				want++
			}
		}
		if d, e := bits.Distance(a, b); d != want || e != api.OK {
			t.Fatalf("19.7: distance %d, want %d", d, want)
		}
	}
}

func TestVectorOfZeros(t *testing.T) {
	for _, w := range []int{64, 1024} {
		for _, dims := range []int{1, 2, 1024} {
			s := made(t, w, dims, 9)
			v := make([]api.Part, dims)
			for _, c := range []int{1, -1} {
				sums, code := both(t, s, each(v, by(c)))
				if !slices.Equal(sums, make([]api.Part, w/2)) || code != strings.Repeat("\x00", w/8) {
					t.Errorf("19.7: the code of %d zeros is %x", dims, code)
				}
			}
		}
	}
}

// Vectors that point nearly alike have near codes, those that point anyhow are about half of the bits apart.
func TestNearVectorsHaveNearCodes(t *testing.T) {
	x := sample.From(10)
	s := made(t, 1024, 64, 1)
	v := vectorOf(x, 64, 100000)
	_, code := both(t, s, v)
	_, near := both(t, s, sum(v, vectorOf(x, 64, 5000)))
	_, far := both(t, s, vectorOf(x, 64, 100000))
	d, _ := bits.Distance(code, near)
	f, _ := bits.Distance(code, far)
	if d == 0 || d > 100 || f < 400 || f > 624 {
		t.Errorf("distances %d and %d of 1024 bits", d, f)
	}
}

func TestSignerThatNobodyMade(t *testing.T) {
	var none *sign.Signer
	for _, s := range []*sign.Signer{none, {}} {
		checkRefused(t, s, nil, api.ErrDims)
		checkRefused(t, s, []api.Part{}, api.ErrDims)
		checkRefused(t, s, []api.Part{{Re: 1}}, api.ErrDims)
		checkRefused(t, s, []api.Part{{Re: greatest + 1}}, api.ErrDims)
	}
}
