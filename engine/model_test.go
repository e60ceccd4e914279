package engine_test

import (
	"cmp"
	"fmt"
	"maps"
	"slices"
	"strings"

	"kindred/api"
	"kindred/disk"
	"kindred/internal/sample"
)

// state is what updates have made, up to one of them.
type state struct {
	seq   int
	pairs map[int]string
}

// history are the states of a store whose updates answered OK, oldest first; up to the one at the place sure none can be taken back any more.
type history struct {
	all  []state
	sure int
}

func (h *history) add(b *both) {
	h.all = append(h.all, state{seq: b.k.Seq(), pairs: maps.Clone(b.pairs)})
}

// settle: nothing that is there now can be taken back.
func (h *history) settle() { h.sure = len(h.all) - 1 }

// survives: behind a power cut the store is in one of the states that could be, or in that which the call under way would have made (nil: none was). It goes on from there.
func (b *both) survives(under *state) {
	b.t.Helper()
	h := &b.past
	if under != nil {
		h.all = append(h.all, *under)
	}
	pairs := map[int]string{}
	list, _ := b.e.Pairs(0, 1<<30)
	for _, p := range list {
		pairs[p.ID] = p.Code
	}
	for i := len(h.all) - 1; i >= h.sure; i-- {
		if h.all[i].seq == b.e.Seq() && maps.Equal(h.all[i].pairs, pairs) {
			h.all = h.all[:i+1]
			h.settle()
			return
		}
	}
	b.t.Fatalf("17.12: %s: behind a power cut Seq is %d, with %q; it was %q, and the first %d were durable", b.where, b.e.Seq(), fmt.Sprint(pairs), fmt.Sprint(h.all), h.sure+1)
}

// twice: a second Open tells the same and writes nothing.
func (b *both) twice() {
	b.t.Helper()
	was, seq := seenOf(b.d), b.e.Seq()
	if e := b.open(); e != api.OK || seenOf(b.d) != was || b.e.Seq() != seq {
		b.t.Fatalf("17.12: %s: a second Open: %d, %d, or it has written", b.where, e, b.e.Seq())
	}
}

// back opens a store behind a power cut; the power goes at the n-th write of the Open, too, if it has so many.
func (b *both) back(n int, done bool, cuts []api.Cut) {
	b.t.Helper()
	b.arm(n, done)
	e := b.open()
	b.arm(0, false)
	if e == api.ErrDown {
		b.crash(cuts)
		e = b.open()
	}
	if e != api.OK {
		b.t.Fatalf("17.12: %s: Open behind a power cut: %d", b.where, e)
	}
}

// looked is a plain look: all pairs as hits for q.
func looked(list []api.Pair, q string) []api.Hit {
	hits := make([]api.Hit, 0, len(list))
	for _, p := range list {
		d := 0
		for i := range len(q) {
			for x := q[i] ^ p.Code[i]; x != 0; x &= x - 1 {
				d++
			}
		}
		hits = append(hits, api.Hit{Dist: d, ID: p.ID, Code: p.Code})
	}
	slices.SortFunc(hits, func(x, y api.Hit) int {
		return cmp.Or(cmp.Compare(x.Dist, y.Dist), cmp.Compare(x.ID, y.ID))
	})
	return hits
}

// seenOf is all that a disk tells of itself.
func seenOf(d *disk.Disk) string {
	var b strings.Builder
	fmt.Fprintln(&b, d.Down(), d.Used(), d.Writes(), d.Age(), d.Image())
	for _, name := range d.Names() {
		n, _ := d.Size(name)
		s, _ := d.Read(name, 0, n)
		fmt.Fprintln(&b, name, s)
	}
	return b.String()
}

// put makes a file of these bytes, in the place of what has the name.
func put(d *disk.Disk, name, b string) {
	d.Delete(name)
	d.Create(name)
	d.Append(name, b)
	d.Sync(name)
}

// short is a text, not too much of it.
func short(s string) string {
	if len(s) > 1500 {
		return s[:1500] + " .."
	}
	return s
}

// z is a code of 64 bits, its last byte this one; same one whose bytes are all this one.
func z(last byte) string { return strings.Repeat("\x00", 7) + string([]byte{last}) }

func same(c byte) string { return strings.Repeat(string([]byte{c}), 8) }

// maker makes options, codes and power cuts up.
type maker struct{ *sample.Source }

func from(seed int) maker { return maker{sample.From(seed)} }

// opts are some that go, with chunks of one size or of two.
func (g maker) opts() api.Opts {
	all := []api.Opts{{Width: 64, Chunks: 2, Mode: 1}, {Width: 64, Chunks: 3, Mode: 1}, {Width: 64, Mode: 2}, {Width: 128, Chunks: 7, Mode: 1}, {Width: 192, Mode: 2}, {Width: 64, Chunks: 8, Mode: 1}}
	return all[g.Below(len(all))]
}

// code is one of a few, near one another or not.
func (g maker) code(w int) string {
	b := []byte(strings.Repeat([]string{"\x00", "\xff"}[g.Below(2)], w/8))
	for range g.Below(3) {
		b[[]int{0, w/8 - 1, w / 16}[g.Below(3)]] ^= byte(g.Below(3))
	}
	return string(b)
}

// near is a code some bits of which are others.
func (g maker) near(code string, bits int) string {
	b := []byte(code)
	for range bits {
		b[g.Below(len(b))] ^= 1 << g.Below(8)
	}
	return string(b)
}

// cuts keep of some files something.
func (g maker) cuts(next int) []api.Cut {
	var list []api.Cut
	some := func(name string) {
		if g.Below(2) == 0 {
			list = append(list, api.Cut{Name: name, Keep: []int{-1, 1, 5, g.Below(60), 999, 1 << 40}[g.Below(6)], Spoil: []byte{0, 0, 1, 0x80, 0xff}[g.Below(5)]})
		}
	}
	some("manifest.new")
	some("manifest")
	for n := max(1, next-6); n <= next+3; n++ {
		some(fmt.Sprint("j", n))
		some(fmt.Sprint("r", n, ".0"))
		some(fmt.Sprint("r", n, ".1"))
	}
	return list
}
