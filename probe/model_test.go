package probe_test

import (
	"fmt"
	"math/big"
	"slices"
	"testing"

	"kindred/api"
	"kindred/internal/sample"
	"kindred/probe"
)

// A second writing of the chapter: every code is looked at, and from its nearest chunk it is told behind which shell it is a candidate.

// model is pairs of unlike ids, and how their codes are cut.
type model struct {
	w, m  int
	pairs []api.Pair
}

// span is where the j-th chunk begins, and how many bits it has.
func (m model) span(j int) (int, int) {
	from := 0
	for i := 0; ; i++ {
		n := m.w / m.m
		if i < m.w%m.m {
			n++
		}
		if i == j {
			return from, n
		}
		from += n
	}
}

func bit(code string, i int) int { return int(code[i/8]>>(7-i%8)) & 1 }

// value is that of the j-th chunk.
func (m model) value(code string, j int) int {
	from, n := m.span(j)
	v := 0
	for i := range n {
		v = 2*v + bit(code, from+i)
	}
	return v
}

// apart is in how many of n bits from one on two codes are unlike.
func apart(a, b string, from, n int) int {
	d := 0
	for i := from; i < from+n; i++ {
		if bit(a, i) != bit(b, i) {
			d++
		}
	}
	return d
}

// needs is the number of shells behind which a code is a candidate: one more than its nearest chunk's distance.
func (m model) needs(code, q string) int {
	least := m.w
	for j := range m.m {
		from, n := m.span(j)
		least = min(least, apart(code, q, from, n))
	}
	return least + 1
}

// values are those of the j-th chunk, rising, each once.
func (m model) values(j int) []int {
	var list []int
	for _, p := range m.pairs {
		list = append(list, m.value(p.Code, j))
	}
	slices.Sort(list)
	return slices.Compact(list)
}

// at are the pairs with a value, by code, then id.
func (m model) at(j, value int) []api.Pair {
	var list []api.Pair
	for _, p := range m.pairs {
		if m.value(p.Code, j) == value {
			list = append(list, p)
		}
	}
	slices.SortFunc(list, func(a, b api.Pair) int {
		if a.Code < b.Code || a.Code == b.Code && a.ID < b.ID {
			return -1
		}
		return 1
	})
	return list
}

// codes is how many unlike codes pairs have.
func codes(pairs []api.Pair) int {
	there := map[string]bool{}
	for _, p := range pairs {
		there[p.Code] = true
	}
	return len(there)
}

// look is what a model tells of one query.
type look struct {
	model
	q      string
	needs  map[string]int
	values [][]int
}

func (m model) of(q string) look {
	l := look{model: m, q: q, needs: map[string]int{}}
	for _, p := range m.pairs {
		if l.needs[p.Code] == 0 {
			l.needs[p.Code] = m.needs(p.Code, q)
		}
	}
	for j := range m.m {
		l.values = append(l.values, m.values(j))
	}
	return l
}

// behind is what there is behind n shells: the candidates' pairs in order, and the Stats.
func (l look) behind(n int) ([]api.Hit, api.Stats) {
	var near []api.Pair
	for _, p := range l.pairs {
		if l.needs[p.Code] <= n {
			near = append(near, p)
		}
	}
	x := api.Stats{Shells: n, Codes: codes(near), Pairs: len(near)}
	for s := range n {
		for j := range l.m {
			if _, bits := l.span(j); bits >= s {
				masks := new(big.Int).Binomial(int64(bits), int64(s))
				x.Steps += min(int(masks.Int64()), len(l.values[j]))
			}
		}
	}
	return ordered(l.q, near), x
}

// ordered are pairs as hits, by distance, then id.
func ordered(q string, pairs []api.Pair) []api.Hit {
	var list []api.Hit
	for _, p := range pairs {
		list = append(list, api.Hit{Dist: apart(q, p.Code, 0, 8*len(q)), ID: p.ID, Code: p.Code})
	}
	slices.SortFunc(list, func(a, b api.Hit) int {
		if a.Dist != b.Dist {
			return a.Dist - b.Dist
		}
		return a.ID - b.ID
	})
	return list
}

// least is what there is behind the least number of shells for which a search ends.
func (l look) least(ends func(n int, near []api.Hit) bool) ([]api.Hit, api.Stats) {
	_, most := l.span(0)
	for n := 0; ; n++ {
		near, x := l.behind(n)
		if ends(n, near) || x.Codes == codes(l.pairs) || n > most {
			return near, x
		}
	}
}

func (l look) topK(k int) ([]api.Hit, api.Stats) {
	if k == 0 {
		return nil, api.Stats{}
	}
	near, x := l.least(func(n int, near []api.Hit) bool { return len(near) >= k && l.m*n > near[k-1].Dist })
	return near[:min(k, len(near))], x
}

func (l look) radius(r int) ([]api.Hit, api.Stats) {
	near, x := l.least(func(n int, near []api.Hit) bool { return l.m*n > r })
	for i, h := range near {
		if h.Dist > r {
			return near[:i], x
		}
	}
	return near, x
}

func (l look) few(k, shells int) ([]api.Hit, api.Stats) {
	if k == 0 {
		return nil, api.Stats{}
	}
	near, x := l.least(func(n int, near []api.Hit) bool { return n == shells })
	return near[:min(k, len(near))], x
}

// watch is a true source of a model that writes down what is asked, answers pairs in an order of its own, and spoils each list that it has answered at the next call.
type watch struct {
	t      *testing.T
	look   look
	order  *sample.Source
	values map[int]int
	ats    map[[2]int]int
	spoil  func()
}

func watched(t *testing.T, l look, seed int) *watch {
	return &watch{t: t, look: l, order: sample.From(seed), values: map[int]int{}, ats: map[[2]int]int{}, spoil: func() {}}
}

func (o *watch) source() probe.Source {
	return probe.Source{Width: o.look.w, Chunks: o.look.m, Codes: codes(o.look.pairs), Values: o.Values, At: o.At}
}

func (o *watch) Values(j int) []int {
	o.spoil()
	o.values[j]++
	if j < 0 || j >= o.look.m {
		return nil
	}
	given, spoil := lend(o.t, o.look.values[j], -5)
	o.spoil = spoil
	return given
}

func (o *watch) At(j, value int) ([]api.Pair, api.Errno) {
	o.spoil()
	o.ats[[2]int{j, value}]++
	if j < 0 || j >= o.look.m {
		return nil, api.OK
	}
	given, spoil := lend(o.t, shuffled(o.order, o.look.at(j, value)), api.Pair{ID: -5, Code: "spoilt"})
	o.spoil = spoil
	return given, api.OK
}

// lend is a list to hand out, with room behind it, and what looks whether it was changed and then writes over it.
func lend[T comparable](t *testing.T, list []T, junk T) ([]T, func()) {
	room := append(slices.Clone(list), junk, junk, junk)
	was := slices.Clone(room)
	return room[:len(list)], func() {
		if !slices.Equal(room, was) {
			t.Errorf("11.7: a list of the source was changed: %v, and was %v", room, was)
		}
		for i := range room {
			room[i], was[i] = junk, junk
		}
	}
}

// looksRight: what a search that tells so many Shells has asked is what it may and must ask.
func (o *watch) looksRight(what string, shells int) {
	o.t.Helper()
	o.spoil()
	for j, times := range o.values {
		if j < 0 || j >= o.look.m || times > shells {
			o.t.Fatalf("11.7: %s: Values(%d) was asked %d times, with %d shells", what, j, times, shells)
		}
	}
	for at, times := range o.ats {
		if at[0] < 0 || at[0] >= o.look.m || times != 1 || o.away(at[0], at[1]) >= shells {
			o.t.Fatalf("11.7: %s: At(%d, %d) was asked %d times, with %d shells", what, at[0], at[1], times, shells)
		}
	}
	for j, list := range o.look.values {
		for _, value := range list {
			if o.away(j, value) < shells && o.ats[[2]int{j, value}] != 1 {
				o.t.Fatalf("11.7: %s: At(%d, %d) was asked %d times, with %d shells", what, j, value, o.ats[[2]int{j, value}], shells)
			}
		}
	}
}

// away is how far a value of chunk j is from the query's.
func (o *watch) away(j, value int) int {
	d := 0
	for x := uint64(value ^ o.look.value(o.look.q, j)); x > 0; x /= 2 {
		d += int(x % 2)
	}
	return d
}

// shuffled is the same list in another order.
func shuffled[T any](s *sample.Source, list []T) []T {
	list = slices.Clone(list)
	for i := range list {
		j := i + s.Below(len(list)-i)
		list[i], list[j] = list[j], list[i]
	}
	return list
}

// cuts are widths, and into how many chunks codes of them are cut: the least and the most, even ones and uneven ones.
func cuts() [][2]int {
	return [][2]int{{64, 2}, {64, 3}, {64, 4}, {64, 5}, {64, 7}, {64, 8}, {128, 4}, {128, 7}, {128, 16}, {192, 6}, {192, 17}, {256, 9}, {512, 16}, {512, 64}, {960, 31}, {1024, 32}, {1024, 33}, {1024, 100}, {1024, 128}}
}

// turned is a code with some bits turned, perhaps the same one twice.
func turned(s *sample.Source, code string, times int) string {
	b := []byte(code)
	for range times {
		i := s.Below(8 * len(b))
		b[i/8] ^= 0x80 >> (i % 8)
	}
	return string(b)
}

// complement has no bit alike.
func complement(code string) string {
	b := []byte(code)
	for i := range b {
		b[i] = ^b[i]
	}
	return string(b)
}

// sampled is a model with about n pairs, and a query: many of the codes are near to it, or to one another, or the same, some far, one perhaps as far as can be.
func sampled(s *sample.Source, w, m, n int) (model, string) {
	q := s.Text(w / 8)
	pairs := make([]api.Pair, 0, n)
	spread := []int{0, 1, 3, m, 3 * m, w / 4, w}[s.Below(7)]
	for i := range n {
		code := turned(s, q, s.Below(spread+1))
		switch s.Below(8) {
		case 0:
			code = s.Text(w / 8)
		case 1:
			code = complement(code)
		case 2, 3:
			if i > 0 {
				code = turned(s, pairs[s.Below(i)].Code, s.Below(3))
			}
		case 4:
			if i > 0 {
				code = pairs[s.Below(i)].Code
			}
		}
		pairs = append(pairs, api.Pair{ID: 7*i + s.Below(7), Code: code})
	}
	if n > 0 && s.Below(4) == 0 {
		pairs[0].ID = api.MaxID
	}
	if s.Below(6) == 0 {
		q = complement(q)
	}
	return model{w: w, m: m, pairs: shuffled(s, pairs)}, q
}

// told is something in words, not too many.
func told(what any) string {
	s := fmt.Sprintf("%+q", fmt.Sprintf("%+v", what))
	if len(s) > 1200 {
		s = s[:1200] + " .."
	}
	return s
}
