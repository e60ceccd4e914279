package bktree_test

import (
	"math"
	"runtime"
	"slices"
	"strings"
	"testing"
	"unsafe"

	"kindred/api"
	"kindred/bktree"
	"kindred/internal/sample"
)

const ones = "\xff\xff\xff\xff\xff\xff\xff\xff"

// z is eight bytes, the last one c, the others 0.
func z(c byte) string { return "\x00\x00\x00\x00\x00\x00\x00" + string([]byte{c}) }

// loose is a text whose bytes can be changed behind a call's back.
func loose(b []byte) string { return unsafe.String(&b[0], len(b)) }

// hit is one as the tree tells it.
func hit(dist int, code string) api.Hit { return api.Hit{Dist: dist, Code: code} }

func newTree(t *testing.T, w int, codes ...string) *bktree.Tree {
	t.Helper()
	x := bktree.New(w)
	if x == nil {
		t.Fatalf("12.3: New(%d) is nil", w)
	}
	for _, code := range codes {
		adds(t, x, code, true)
	}
	return x
}

// example is the chapter's tree.
func example(t *testing.T) *bktree.Tree {
	t.Helper()
	return newTree(t, 64, z(0), z(1), z(2), z(3), ones)
}

func adds(t *testing.T, x *bktree.Tree, code string, want bool) {
	t.Helper()
	if yes, e := x.Add(code); yes != want || e != api.OK {
		t.Fatalf("12.4: Add(%q) = %v, %d, want %v", code, yes, e, want)
	}
}

func drops(t *testing.T, x *bktree.Tree, code string, want bool) {
	t.Helper()
	if yes := x.Drop(code); yes != want {
		t.Fatalf("12.5: Drop(%q) = %v", code, yes)
	}
}

// shape: a tree tells just this of itself.
func shape(t *testing.T, where string, x *bktree.Tree, nodes, length, depth int) {
	t.Helper()
	for range 2 { // a question changes nothing
		if x.Nodes() != nodes || x.Len() != length || x.Depth() != depth {
			t.Fatalf("12.6: %s: Nodes %d, Len %d, Depth %d, want %d, %d, %d", where, x.Nodes(), x.Len(), x.Depth(), nodes, length, depth)
		}
	}
}

// within: that is what is there, and so many nodes are looked at for it.
func within(t *testing.T, x *bktree.Tree, q string, r, looks int, want ...api.Hit) {
	t.Helper()
	was := x.Looked()
	list, e := x.Within(q, r)
	if e != api.OK || !slices.Equal(list, want) {
		t.Fatalf("12.7: Within(%q, %d) = %s, %d, want %s", q, r, told(list), e, told(want))
	}
	if got := x.Looked() - was; got != looks {
		t.Fatalf("12.9: Within(%q, %d) looks at %d nodes, want %d", q, r, got, looks)
	}
}

// nearest likewise.
func nearest(t *testing.T, x *bktree.Tree, q string, k, looks int, want ...api.Hit) {
	t.Helper()
	was := x.Looked()
	list, e := x.Nearest(q, k)
	if e != api.OK || !slices.Equal(list, want) {
		t.Fatalf("12.8: Nearest(%q, %d) = %s, %d, want %s", q, k, told(list), e, told(want))
	}
	if got := x.Looked() - was; got != looks {
		t.Fatalf("12.9: Nearest(%q, %d) looks at %d nodes, want %d", q, k, got, looks)
	}
}

func TestExamples(t *testing.T) {
	x := example(t)
	adds(t, x, z(1), false)
	if yes, e := x.Add("x"); yes || e != api.ErrCode {
		t.Fatalf("12.4: Add of one byte = %v, %d", yes, e)
	}
	shape(t, "the chapter's tree", x, 5, 5, 3)
	within(t, x, z(0), 1, 3, hit(0, z(0)), hit(1, z(1)), hit(1, z(2)))
	within(t, x, z(3), 0, 2, hit(0, z(3)))
	if x.Looked() != 5 {
		t.Fatalf("12.9: Looked is %d, want 5", x.Looked())
	}
	// z at 0, so that it counts; then 1 and 2, at 1 each; the second is at 1: not the child at 64, nor that at 2.
	nearest(t, x, z(0), 2, 3, hit(0, z(0)), hit(1, z(1)), hit(1, z(2)))
	// At first all may be as near; z is at 64, so that its children at 0 to 128 are; they fall to 63, 62, then to 0.
	nearest(t, x, ones, 1, 5, hit(0, ones))
	nearest(t, x, ones, 9, 5, hit(0, ones), hit(62, z(3)), hit(63, z(1)), hit(63, z(2)), hit(64, z(0)))
	nearest(t, x, ones, 0, 0)
	drops(t, x, z(0), true)
	drops(t, x, z(0), false)
	if x.Has(z(0)) {
		t.Fatal("12.6: a code that was dropped is there")
	}
	within(t, x, z(0), 1, 3, hit(1, z(1)), hit(1, z(2)))
	shape(t, "behind Drop", x, 5, 4, 3)
	adds(t, x, z(0), true)
	shape(t, "behind Add again", x, 5, 5, 3)
}

func TestNewAtAllWidths(t *testing.T) {
	widths := []int{math.MinInt, math.MinInt + 64, -1 << 32, 1<<32 + 64, 1 << 62, math.MaxInt - 63, math.MaxInt}
	for w := -130; w <= 2200; w++ {
		widths = append(widths, w)
	}
	for _, w := range widths {
		want := w >= 64 && w <= 1024 && w%64 == 0
		x := bktree.New(w)
		if (x != nil) != want {
			t.Fatalf("12.3: New(%d): there is one: %v", w, x != nil)
		}
		if !want {
			continue
		}
		shape(t, "a new tree", x, 0, 0, 0)
		q := strings.Repeat("a", w/8)
		within(t, x, q, w, 0)
		nearest(t, x, q, 4096, 0)
		drops(t, x, q, false)
		if x.Has(q) || x.Looked() != 0 {
			t.Fatalf("12.6: a new tree has a code, or has looked at %d", x.Looked())
		}
		adds(t, x, q, true)
		shape(t, "one code", x, 1, 1, 1)
		within(t, x, strings.Repeat("\x9e", w/8), w-1, 1) // 'a' is 61: as far as can be
		within(t, x, strings.Repeat("\x9e", w/8), w, 1, hit(w, q))
		nearest(t, x, strings.Repeat("\x9e", w/8), 1, 1, hit(w, q))
	}
}

func TestRefusals(t *testing.T) {
	x := example(t)
	within(t, x, z(0), 64, 5, seen()...)
	far := []int{math.MinInt, -1 << 32, -4096, -2, -1, math.MaxInt - 64, math.MaxInt, 1 << 32, 1<<32 + 1}
	for _, q := range []string{"", "x", z(0)[1:], z(0) + "\x00", z(0) + z(0), strings.Repeat("\x00", 128), strings.Repeat("\x00", 1<<16)} {
		if yes, e := x.Add(q); yes || e != api.ErrCode {
			t.Fatalf("12.4: Add of %d bytes = %v, %d", len(q), yes, e)
		}
		if x.Drop(q) || x.Has(q) {
			t.Fatalf("12.5: a text of %d bytes is there", len(q))
		}
		for _, n := range append(far, 0, 1, 64, 65, 4096, 4097) {
			if list, e := x.Within(q, n); len(list) != 0 || e != api.ErrCode {
				t.Fatalf("12.7: Within of %d bytes = %d, want ErrCode", len(q), e)
			}
			if list, e := x.Nearest(q, n); len(list) != 0 || e != api.ErrCode {
				t.Fatalf("12.8: Nearest of %d bytes = %d, want ErrCode", len(q), e)
			}
		}
	}
	for _, n := range append(far, 65, 66, 1024, 4096) {
		if list, e := x.Within(z(0), n); len(list) != 0 || e != api.ErrRadius {
			t.Fatalf("12.7: Within(z, %d) = %d, want ErrRadius", n, e)
		}
	}
	for _, n := range append(far, 4097, 1<<20) {
		if list, e := x.Nearest(z(0), n); len(list) != 0 || e != api.ErrK {
			t.Fatalf("12.8: Nearest(z, %d) = %d, want ErrK", n, e)
		}
	}
	drops(t, x, z(9), false)
	shape(t, "behind refusals", x, 5, 5, 3)
	if x.Looked() != 5 {
		t.Fatalf("12.9: refused calls, Add and Drop are counted: %d", x.Looked())
	}
	nearest(t, x, z(0), 4096, 5, seen()...)
	// The radius goes up to the tree's own width.
	wide := newTree(t, 128)
	if _, e := wide.Within(z(0)+z(0), 128); e != api.OK {
		t.Fatalf("12.7: Within(.., 128) of 128 bits answers %d", e)
	}
	if _, e := wide.Within(z(0)+z(0), 129); e != api.ErrRadius {
		t.Fatalf("12.7: Within(.., 129) of 128 bits answers %d", e)
	}
	if _, e := wide.Within(z(0), 1); e != api.ErrCode {
		t.Fatalf("12.7: Within of 64 bits among 128 answers %d", e)
	}
}

// seen are all codes of the chapter's tree, as z sees them.
func seen() []api.Hit {
	return []api.Hit{hit(0, z(0)), hit(1, z(1)), hit(1, z(2)), hit(2, z(3)), hit(64, ones)}
}

// What an order of children, and the bound as it is then, make of a search: each by hand.
func TestWaysByHand(t *testing.T) {
	// From z: 1 at 1, 3 at 2, 7 at 3, f at 64.
	x := newTree(t, 64, z(0), z(1), z(3), z(7), ones)
	shape(t, "children of one node", x, 5, 5, 2)
	// z is at 3: any child, so 1 (at 2: now 2, so those at 1 to 5), 3 (at 1: those at 2 to 4), 7 (at 0: those at 3); not f.
	nearest(t, x, z(7), 1, 4, hit(0, z(7)))
	// z at 4, 1 at 3, 3 at 2, 7 at 1: the third nearest is at 3 behind 7: f at 64 is not looked at; all of 1, 3, 7 are.
	nearest(t, x, z(15), 3, 4, hit(1, z(7)), hit(2, z(3)), hit(3, z(1)))
	// From z itself: z at 0 is the nearest: no child is at 0.
	nearest(t, x, z(0), 1, 1, hit(0, z(0)))
	nearest(t, x, z(0), 2, 2, hit(0, z(0)), hit(1, z(1)))
	// A dead node leads on but does not count: of z, 1 the second is at 1, without z the second is 3.
	drops(t, x, z(0), true)
	nearest(t, x, z(0), 1, 2, hit(1, z(1)))
	nearest(t, x, z(0), 2, 3, hit(1, z(1)), hit(2, z(3)))
	within(t, x, z(0), 0, 1)
	within(t, x, z(0), 1, 2, hit(1, z(1)))
	within(t, x, z(15), 1, 2, hit(1, z(7))) // z at 4: its children at 3 to 5
	within(t, x, ones, 0, 2, hit(0, ones))
}

func TestTies(t *testing.T) {
	// 0x30 at 2 from z, three codes at 1: all are answered that are as far as the k-th.
	x := newTree(t, 64, z(0x30), z(4), z(2), z(1))
	all := []api.Hit{hit(1, z(1)), hit(1, z(2)), hit(1, z(4)), hit(2, z(0x30))}
	for k := 1; k <= 5; k++ {
		list, e := x.Nearest(z(0), k)
		want := all[:3]
		if k > 3 {
			want = all
		}
		if e != api.OK || !slices.Equal(list, want) {
			t.Fatalf("12.8: Nearest(z, %d) = %s, %d", k, told(list), e)
		}
	}
	// More than k of them by far, and more than MaxK.
	y := newTree(t, 1024)
	for i := range 1024 {
		adds(t, y, one(1024, i), true)
	}
	q := one(1024, 0)
	for _, k := range []int{2, 3, 1023, 1024, 4096} {
		if list, e := y.Nearest(q, k); len(list) != 1024 || e != api.OK {
			t.Fatalf("12.8: Nearest(.., %d) has %d of 1024, %d", k, len(list), e)
		}
	}
	s := sample.From(3)
	v := newTree(t, 64)
	for i := range 5000 {
		adds(t, v, string([]byte{byte(i >> 8), byte(i)})+s.Text(6), true)
	}
	if list, _ := v.Nearest(z(0), 4096); len(list) < 4096 || len(list) > 5000 {
		t.Fatalf("12.8: Nearest(z, 4096) has %d", len(list))
	}
	if list, _ := v.Within(z(0), 64); len(list) != 5000 {
		t.Fatalf("12.7: Within(z, 64) has %d of 5000", len(list))
	}
}

func TestMadeAnew(t *testing.T) {
	x := newTree(t, 64)
	for i := range byte(17) {
		adds(t, x, z(i), true)
	}
	depth := x.Depth()
	for i := range byte(16) {
		drops(t, x, z(i), true)
	}
	shape(t, "16 of 17 are dead", x, 17, 1, depth)
	within(t, x, z(16), 64, 17, hit(0, z(16)))
	drops(t, x, z(16), true)
	shape(t, "17 of 17 were dropped", x, 0, 0, 0)
	within(t, x, z(16), 64, 0)
	if x.Looked() != 17 {
		t.Fatalf("12.9: making anew sets Looked to %d, want 17", x.Looked())
	}
	adds(t, x, z(5), true)
	shape(t, "one of them again", x, 1, 1, 1)

	// 11 that stay and 29 that go: added falling, so that behind it the root is another one.
	y := newTree(t, 64)
	for i := byte(40); i > 0; i-- {
		adds(t, y, z(i), true)
	}
	for i := byte(40); i > 12; i-- {
		drops(t, y, z(i), true)
	}
	shape(t, "28 dead, 12 live", y, 40, 12, y.Depth())
	drops(t, y, z(1), true)
	// 29 dead, 11 live.
	m := &model{w: 64}
	for i := byte(2); i <= 12; i++ {
		m.hang(z(i))
	}
	shape(t, "made anew", y, 11, 11, m.depth())
	for c := range byte(32) {
		for r := range 5 {
			was, mWas := y.Looked(), m.looked
			list, _ := y.Within(z(c), r)
			want, _ := m.within(z(c), r)
			if !slices.Equal(list, want) || y.Looked()-was != m.looked-mWas {
				t.Fatalf("12.5: behind making anew Within(%d, %d) = %s, looks at %d, want %s, %d", c, r, told(list), y.Looked()-was, told(want), m.looked-mWas)
			}
		}
	}
}

func TestDropThatDoesNotMakeAnew(t *testing.T) {
	// As many dead as live and 16, again and again, by adding again ahead of one more Drop.
	x := newTree(t, 64)
	for i := range byte(18) {
		adds(t, x, z(i), true)
	}
	for i := range byte(17) {
		drops(t, x, z(i), true)
	}
	shape(t, "17 dead, 1 live", x, 18, 1, x.Depth())
	for range 40 {
		adds(t, x, z(3), true)
		drops(t, x, z(3), true)
		drops(t, x, z(3), false)
		drops(t, x, "x", false)
	}
	shape(t, "17 dead, 1 live still", x, 18, 1, x.Depth())
	drops(t, x, z(17), true)
	shape(t, "18 dead", x, 0, 0, 0)
}

// twin is a tree and its model, on which the same is done.
type twin struct {
	t *testing.T
	x *bktree.Tree
	m *model
}

func newTwin(t *testing.T, w int) *twin {
	t.Helper()
	return &twin{t: t, x: newTree(t, w), m: &model{w: w}}
}

func (o *twin) add(code string) {
	o.t.Helper()
	yes, e := o.x.Add(code)
	if want, wantE := o.m.add(code); yes != want || e != wantE {
		o.t.Fatalf("12.4: Add(%q) = %v, %d, want %v, %d", code, yes, e, want, wantE)
	}
}

func (o *twin) drop(code string) {
	o.t.Helper()
	if yes, want := o.x.Drop(code), o.m.drop(code); yes != want {
		o.t.Fatalf("12.5: Drop(%q) = %v, want %v", code, yes, want)
	}
}

func (o *twin) within(q string, r int) {
	o.t.Helper()
	list, e := o.x.Within(q, r)
	if want, wantE := o.m.within(q, r); e != wantE || !slices.Equal(list, want) {
		o.t.Fatalf("12.7, 12.10: Within(%q, %d) = %s, %d, want %s, %d", q, r, told(list), e, told(want), wantE)
	}
}

func (o *twin) nearest(q string, k int) {
	o.t.Helper()
	list, e := o.x.Nearest(q, k)
	if want, wantE := o.m.nearest(q, k); e != wantE || !slices.Equal(list, want) {
		o.t.Fatalf("12.8, 12.10: Nearest(%q, %d) = %s, %d, want %s, %d", q, k, told(list), e, told(want), wantE)
	}
}

// alike: the two tell the same of themselves.
func (o *twin) alike(what string) {
	o.t.Helper()
	nodes, there := len(o.m.nodes), o.m.there()
	shape(o.t, what, o.x, nodes, len(there), o.m.depth())
	if o.x.Looked() != o.m.looked {
		o.t.Fatalf("12.9: %s: Looked is %d, want %d", what, o.x.Looked(), o.m.looked)
	}
	if nodes > 2*len(there)+16 {
		o.t.Fatalf("12.11: %s: %d nodes, %d live", what, nodes, len(there))
	}
}

// do does something with a code of the pool, or with another one.
func (o *twin) do(s *sample.Source, codes []string, adding int) {
	o.t.Helper()
	w := o.m.w
	code := codes[s.Below(len(codes))]
	was := o.x.Looked()
	switch n := s.Below(100); {
	case n < adding:
		o.add(code)
	case n < 60:
		o.drop(code)
	case n < 75:
		r := []int{0, 1, s.Below(8), s.Below(w/4 + 1), s.Below(w + 1), w, w + 1, -1}[s.Below(8)]
		o.within(turned(s, code, s.Below(4)), r)
	case n < 90:
		k := []int{0, 1, 2, s.Below(10), s.Below(len(codes) + 2), 4096, 4097, -1}[s.Below(8)]
		o.nearest(turned(s, code, s.Below(4)), k)
	case n < 95:
		if got := o.x.Has(code); got != o.m.has(code) {
			o.t.Fatalf("12.6: Has(%q) = %v", code, got)
		}
	default:
		text := s.Text(s.Below(w/8 + 2))
		o.add(text)
		o.drop(text)
		o.within(text, s.Below(w))
		o.nearest(text, s.Below(5))
		return
	}
	if looks := o.x.Looked() - was; looks > o.x.Nodes() {
		o.t.Fatalf("12.11: one search looks at %d of %d nodes", looks, o.x.Nodes())
	}
}

func TestAgainstModel(t *testing.T) {
	anew := 0
	for seed := range 1500 {
		s := sample.From(seed)
		w := 64 * (1 + s.Below(16))
		if s.Below(2) == 0 {
			w = 64
		}
		o := newTwin(t, w)
		codes := pool(s, w, 1+s.Below(70))
		adding := 30
		for i := range 300 {
			if i%100 == 0 { // times in which most is added, and others in which most is dropped
				adding = []int{55, 5, 50, 2, 30}[(i/100+seed)%5]
			}
			o.do(s, codes, adding)
			o.alike("a row of calls")
		}
		for _, code := range codes {
			if got := o.x.Has(code); got != o.m.has(code) {
				t.Fatalf("12.6: Has(%q) = %v", code, got)
			}
		}
		anew += o.m.anew
	}
	if anew < 150 {
		t.Fatalf("the rows of calls make a tree anew %d times only", anew)
	}
}

func TestMadeAnewWithMany(t *testing.T) {
	for seed := range 12 {
		s := sample.From(1000 + seed)
		w := 64 * (1 + s.Below(3))
		o := newTwin(t, w)
		codes := pool(s, w, 150)
		for _, code := range codes {
			o.add(code)
		}
		for o.x.Len() > 0 {
			o.drop(codes[s.Below(len(codes))])
			o.alike("dropping all")
			if s.Below(8) == 0 {
				o.within(codes[s.Below(len(codes))], s.Below(w/4))
				o.nearest(codes[s.Below(len(codes))], 1+s.Below(20))
			}
		}
		if o.m.anew < 2 {
			t.Fatalf("a tree of 150 was made anew %d times only", o.m.anew)
		}
	}
}

// Whatever order codes come in, the answers are the same; how much is looked at need not be.
func TestOrderOfAddsIsNotSeen(t *testing.T) {
	s := sample.From(77)
	codes := pool(s, 128, 200)
	x := newTree(t, 128)
	for _, code := range codes {
		x.Add(code)
	}
	for range 10 {
		y := newTree(t, 128)
		order := slices.Clone(codes)
		for i := range order {
			j := i + s.Below(len(order)-i)
			order[i], order[j] = order[j], order[i]
		}
		for i, code := range order {
			y.Add(code)
			if i%3 == 0 {
				y.Drop(order[s.Below(i+1)])
			}
		}
		for _, code := range order {
			y.Add(code)
		}
		for range 30 {
			q, r, k := turned(s, codes[s.Below(len(codes))], s.Below(9)), s.Below(40), 1+s.Below(40)
			a, _ := x.Within(q, r)
			b, _ := y.Within(q, r)
			if !slices.Equal(a, b) {
				t.Fatalf("12.10: Within(%q, %d) hangs on the order: %s and %s", q, r, told(a), told(b))
			}
			a, _ = x.Nearest(q, k)
			b, _ = y.Nearest(q, k)
			if !slices.Equal(a, b) {
				t.Fatalf("12.10: Nearest(%q, %d) hangs on the order: %s and %s", q, k, told(a), told(b))
			}
		}
	}
}

func TestCallsInARowHangOnNothingElse(t *testing.T) {
	var first []int
	for range 5 {
		s := sample.From(8)
		x := newTree(t, 64)
		for _, code := range pool(s, 64, 300) {
			x.Add(code)
		}
		var looks []int
		for range 60 {
			x.Nearest(s.Text(8), 1+s.Below(12))
			looks = append(looks, x.Looked())
		}
		if first == nil {
			first = looks
		}
		if !slices.Equal(first, looks) {
			t.Fatal("12.8: the same calls look at other nodes")
		}
	}
}

// chain is as deep as a tree can be: a code, and all at distance 1 from it, of which any two are at 2.
func chain(w int) []string {
	codes := []string{string(make([]byte, w/8))}
	for i := range w {
		codes = append(codes, one(w, i))
	}
	return codes
}

func TestChain(t *testing.T) {
	codes := chain(1024)
	x := newTree(t, 1024, codes...)
	shape(t, "a chain", x, 1025, 1025, 1025)
	if list, e := x.Within(codes[0], 1); len(list) != 1025 || e != api.OK || x.Looked() != 1025 {
		t.Fatalf("12.7: a chain: %d, %d, looked at %d", len(list), e, x.Looked())
	}
	for i, code := range codes {
		if !x.Has(code) {
			t.Fatalf("12.6: a chain: the %d-th code is not there", i)
		}
		list, e := x.Nearest(code, 1)
		if e != api.OK || !slices.Equal(list, []api.Hit{hit(0, code)}) {
			t.Fatalf("12.8: a chain: the %d-th code's nearest is %s", i, told(list))
		}
	}
	for i, code := range codes {
		drops(t, x, code, true)
		if x.Len() != len(codes)-1-i || x.Nodes() > 2*x.Len()+16 {
			t.Fatalf("12.11: a chain: %d nodes, %d live", x.Nodes(), x.Len())
		}
	}
}

// spent is how many bytes a call makes.
func spent(call func()) int {
	var a, b runtime.MemStats
	runtime.ReadMemStats(&a)
	call()
	runtime.ReadMemStats(&b)
	return int(b.TotalAlloc - a.TotalAlloc)
}

func TestManyCodes(t *testing.T) {
	const many = 1 << 20
	s := sample.From(12)
	x := newTree(t, 64)
	for i := range many {
		adds(t, x, string([]byte{byte(i >> 16), byte(i >> 8), byte(i)})+s.Text(5), true)
	}
	if x.Len() != many || x.Nodes() != many {
		t.Fatalf("12.6: Len %d, Nodes %d, want %d", x.Len(), x.Nodes(), many)
	}
	// A node on the way has at most 64 children, each some numbers; what is answered is short.
	room := 1<<14 + x.Depth()*64*64
	q := s.Text(8)
	var list []api.Hit
	if got := spent(func() { list, _ = x.Nearest(q, 1) }); got > room || len(list) == 0 {
		t.Errorf("12.12: Nearest makes %d bytes, with a depth of %d", got, x.Depth())
	}
	r := list[0].Dist
	if got := spent(func() { list, _ = x.Within(q, r) }); got > room || len(list) == 0 {
		t.Errorf("12.12: Within makes %d bytes, with a depth of %d", got, x.Depth())
	}
	if got := spent(func() {
		x.Has(q)
		x.Depth()
		x.Nodes()
		x.Len()
		x.Drop(q)
		x.Looked()
	}); got > 1<<14 {
		t.Errorf("12.12: questions make %d bytes", got)
	}
	if list, _ = x.Within(q, 64); len(list) != many {
		t.Errorf("12.7: Within(q, 64) has %d of %d", len(list), many)
	}
}

func TestNothingIsShared(t *testing.T) {
	x := example(t)
	all := seen()
	for range 3 {
		a, _ := x.Within(z(0), 64)
		b, _ := x.Nearest(z(0), 9)
		c, _ := x.Within(z(0), 64)
		if !slices.Equal(a, all) || !slices.Equal(b, all) || !slices.Equal(c, all) {
			t.Fatalf("12.7: a list that was changed is told again: %s, %s, %s", told(a), told(b), told(c))
		}
		for _, list := range [][]api.Hit{a, b} {
			list = list[:cap(list)]
			for i := range list {
				list[i] = hit(-7, "spoilt")
			}
		}
		if !slices.Equal(c, all) {
			t.Fatalf("12.7: two lists share memory: %s", told(c))
		}
	}
	// A text's bytes may be used for something else behind the call.
	y := newTree(t, 64)
	b := make([]byte, 8)
	for i := range byte(20) {
		copy(b, z(i))
		adds(t, y, loose(b), true)
	}
	copy(b, ones)
	for i := range byte(20) {
		if !y.Has(z(i)) {
			t.Fatalf("12.4: a code was kept in the caller's memory: %d is gone", i)
		}
	}
	copy(b, z(4))
	y.Drop(loose(b))
	y.Add(loose(b))
	list, _ := y.Nearest(loose(b), 1)
	copy(b, ones)
	if len(list) != 1 || list[0] != hit(0, z(4)) || !y.Has(z(4)) || y.Has(ones) {
		t.Fatalf("12.8: a query's memory is kept: %s", told(list))
	}
}

func TestTreesAreApart(t *testing.T) {
	x, y := example(t), example(t)
	x.Drop(z(0))
	x.Add(z(9))
	x.Within(z(0), 64)
	shape(t, "the other one", y, 5, 5, 3)
	if y.Looked() != 0 || !y.Has(z(0)) || y.Has(z(9)) {
		t.Fatal("12.6: two trees share something")
	}
}

func TestNoTree(t *testing.T) {
	for name, x := range map[string]*bktree.Tree{"a nil tree": nil, "an unmade tree": {}} {
		for _, code := range []string{"", "x", z(0), strings.Repeat("a", 128)} {
			if yes, e := x.Add(code); yes || e != api.ErrCode {
				t.Fatalf("%s: Add = %v, %d", name, yes, e)
			}
			if x.Drop(code) || x.Has(code) {
				t.Fatalf("%s has a code", name)
			}
			if list, e := x.Within(code, 0); len(list) != 0 || e != api.ErrCode {
				t.Fatalf("%s: Within = %v, %d", name, list, e)
			}
			if list, e := x.Nearest(code, 1); len(list) != 0 || e != api.ErrCode {
				t.Fatalf("%s: Nearest = %v, %d", name, list, e)
			}
		}
		shape(t, name, x, 0, 0, 0)
		if x.Looked() != 0 {
			t.Fatalf("%s has looked at %d", name, x.Looked())
		}
	}
}
