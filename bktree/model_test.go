package bktree_test

import (
	"fmt"
	"math/bits"
	"slices"
	"strings"

	"kindred/api"
	"kindred/internal/sample"
)

// A second writing of the chapter: nodes stand in the order in which they were hung, and what goes down the tree is calls within calls.

type branch struct {
	code string
	live bool
	kids map[int]*branch
}

type model struct {
	w      int
	nodes  []*branch // the root is the first
	looked int
	anew   int // how many times it was made anew
}

func apart(a, b string) int {
	d := 0
	for i := range len(a) {
		d += bits.OnesCount8(a[i] ^ b[i])
	}
	return d
}

// below is how many nodes stand on the longest way down.
func (b *branch) below() int {
	most := 0
	for _, kid := range b.kids {
		most = max(most, kid.below())
	}
	return most + 1
}

func (m *model) depth() int {
	if len(m.nodes) == 0 {
		return 0
	}
	return m.nodes[0].below()
}

// there are the codes that are there, rising.
func (m *model) there() []string {
	var list []string
	for _, b := range m.nodes {
		if b.live {
			list = append(list, b.code)
		}
	}
	slices.Sort(list)
	return list
}

// of is the node with a code.
func (m *model) of(code string) *branch {
	for _, b := range m.nodes {
		if b.code == code {
			return b
		}
	}
	return nil
}

func (m *model) has(code string) bool {
	b := m.of(code)
	return b != nil && b.live
}

func (m *model) hang(code string) {
	hung := &branch{code: code, live: true, kids: map[int]*branch{}}
	m.nodes = append(m.nodes, hung)
	for at := m.nodes[0]; at != hung; {
		e := apart(at.code, code)
		if at.kids[e] == nil {
			at.kids[e] = hung
		}
		at = at.kids[e]
	}
}

func (m *model) add(code string) (bool, api.Errno) {
	if len(code) != m.w/8 {
		return false, api.ErrCode
	}
	b := m.of(code)
	if b == nil {
		m.hang(code)
		return true, api.OK
	}
	was := b.live
	b.live = true
	return !was, api.OK
}

func (m *model) drop(code string) bool {
	b := m.of(code)
	if b == nil || !b.live {
		return false
	}
	b.live = false
	there := m.there()
	if dead := len(m.nodes) - len(there); dead > len(there)+16 {
		m.nodes = nil
		m.anew++
		for _, code := range there {
			m.hang(code)
		}
	}
	return true
}

func (m *model) within(q string, r int) ([]api.Hit, api.Errno) {
	if len(q) != m.w/8 {
		return nil, api.ErrCode
	}
	if r < 0 || r > m.w {
		return nil, api.ErrRadius
	}
	var look func(b *branch)
	look = func(b *branch) {
		m.looked++
		d := apart(b.code, q)
		for e, kid := range b.kids {
			if e >= d-r && e <= d+r {
				look(kid)
			}
		}
	}
	if len(m.nodes) > 0 {
		look(m.nodes[0])
	}
	// The way is there for what Looked tells; what is answered is a look at every code.
	return slices.DeleteFunc(m.plain(q), func(h api.Hit) bool { return h.Dist > r }), api.OK
}

func (m *model) nearest(q string, k int) ([]api.Hit, api.Errno) {
	if len(q) != m.w/8 {
		return nil, api.ErrCode
	}
	if k < 0 || k > 4096 {
		return nil, api.ErrK
	}
	if k == 0 {
		return nil, api.OK
	}
	var met []int
	bound := func() int {
		if len(met) < k {
			return m.w
		}
		slices.Sort(met)
		return met[k-1]
	}
	var look func(b *branch)
	look = func(b *branch) {
		m.looked++
		d := apart(b.code, q)
		if b.live {
			met = append(met, d)
		}
		for e := 1; e <= m.w; e++ {
			if kid := b.kids[e]; kid != nil && e >= d-bound() && e <= d+bound() {
				look(kid)
			}
		}
	}
	if len(m.nodes) > 0 {
		look(m.nodes[0])
	}
	all := m.plain(q)
	return slices.DeleteFunc(all, func(h api.Hit) bool { return len(all) > k && h.Dist > all[k-1].Dist }), api.OK
}

// plain are all codes that are there, by distance, then code.
func (m *model) plain(q string) []api.Hit {
	var list []api.Hit
	for _, code := range m.there() {
		list = append(list, api.Hit{Dist: apart(code, q), Code: code})
	}
	slices.SortStableFunc(list, func(a, b api.Hit) int { return a.Dist - b.Dist })
	return list
}

// turned is a code with some bits turned, perhaps the same one twice.
func turned(s *sample.Source, code string, times int) string {
	b := []byte(code)
	for range times {
		i := s.Below(8 * len(b))
		b[i/8] ^= 0x80 >> (i % 8)
	}
	return string(b)
}

// one is a code with one bit, the i-th.
func one(w, i int) string {
	b := make([]byte, w/8)
	b[i/8] = 0x80 >> (i % 8)
	return string(b)
}

// pool are codes of which a test takes one again and again: n of them, most of them unlike; how far they are from one another hangs on the source.
func pool(s *sample.Source, w, n int) []string {
	middle := s.Text(w / 8)
	spread := []int{1, 2, 6, w / 8, w / 2}[s.Below(5)]
	var list []string
	for i := range n {
		code := turned(s, middle, s.Below(spread+1))
		switch s.Below(8) {
		case 0:
			code = s.Text(w / 8)
		case 1:
			code = one(w, i%w)
		case 2:
			code = turned(s, strings.Repeat("\xff", w/8), s.Below(2))
		case 3:
			if i > 0 {
				code = turned(s, list[s.Below(i)], 1+s.Below(2))
			}
		}
		list = append(list, code)
	}
	return list
}

// told is something in words, not too many.
func told(what any) string {
	s := fmt.Sprintf("%+q", fmt.Sprintf("%+v", what))
	if len(s) > 1200 {
		s = s[:1200] + " .."
	}
	return s
}
