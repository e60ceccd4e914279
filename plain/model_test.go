package plain_test

import (
	"fmt"
	"math/big"
	"slices"

	"kindred/api"
	"kindred/internal/sample"
)

// A second writing of the chapter: all updates that were accepted stand in a list, and which pairs there are is looked for anew at each question.
type model struct {
	w   int
	log []api.Update
}

// pairs are those that were put and not taken away since, ids rising.
func (m *model) pairs() []api.Pair {
	var list []api.Pair
	for i, u := range m.log {
		again := func(v api.Update) bool { return v.ID == u.ID }
		if u.Kind != 1 || slices.ContainsFunc(m.log[i+1:], again) {
			continue
		}
		place := 0
		for place < len(list) && list[place].ID < u.ID {
			place++
		}
		list = slices.Insert(list, place, api.Pair{ID: u.ID, Code: u.Code})
	}
	return list
}

func (m *model) get(id int) (string, api.Errno) {
	if id < 0 || id > 1<<48 {
		return "", api.ErrID
	}
	for _, p := range m.pairs() {
		if p.ID == id {
			return p.Code, api.OK
		}
	}
	return "", api.ErrGone
}

func (m *model) insert(id int, code string) api.Errno {
	_, e := m.get(id)
	switch {
	case e == api.ErrID:
		return api.ErrID
	case 8*len(code) != m.w:
		return api.ErrCode
	case e == api.OK:
		return api.ErrTwice
	}
	m.log = append(m.log, api.Update{Seq: len(m.log) + 1, Kind: 1, ID: id, Code: code})
	return api.OK
}

func (m *model) delete(id int) api.Errno {
	if _, e := m.get(id); e != api.OK {
		return e
	}
	m.log = append(m.log, api.Update{Seq: len(m.log) + 1, Kind: 2, ID: id})
	return api.OK
}

func (m *model) play(updates []api.Update) (int, api.Errno) {
	for i, u := range updates {
		e := api.ErrSeq
		switch {
		case u.Seq != len(m.log)+1:
		case u.Kind == 1:
			e = m.insert(u.ID, u.Code)
		case u.Kind == 2 && len(u.Code) > 0:
			e = api.ErrCode
		case u.Kind == 2:
			e = m.delete(u.ID)
		}
		if e != api.OK {
			return i, e
		}
	}
	return len(updates), api.OK
}

// apart is how many bits of two texts are unlike: of the numbers that they are.
func apart(a, b string) int {
	x := new(big.Int).Xor(new(big.Int).SetBytes([]byte(a)), new(big.Int).SetBytes([]byte(b)))
	n := 0
	for i := range x.BitLen() {
		n += int(x.Bit(i))
	}
	return n
}

// seen are the hits of all pairs: at each distance from 0 on, those that are so far, ids rising.
func (m *model) seen(q string) []api.Hit {
	at := make([][]api.Hit, m.w+1)
	for _, p := range m.pairs() {
		dist := apart(q, p.Code)
		at[dist] = append(at[dist], api.Hit{Dist: dist, ID: p.ID, Code: p.Code})
	}
	return slices.Concat(at...)
}

func (m *model) topK(q string, k int) ([]api.Hit, api.Errno) {
	if 8*len(q) != m.w {
		return nil, api.ErrCode
	}
	if k < 0 || k > 4096 {
		return nil, api.ErrK
	}
	list := m.seen(q)
	return list[:min(k, len(list))], api.OK
}

func (m *model) radius(q string, r int) ([]api.Hit, api.Errno) {
	if 8*len(q) != m.w {
		return nil, api.ErrCode
	}
	if r < 0 || r > m.w {
		return nil, api.ErrRadius
	}
	return slices.DeleteFunc(m.seen(q), func(h api.Hit) bool { return h.Dist > r }), api.OK
}

func (m *model) histogram(q string) ([]int, api.Errno) {
	if 8*len(q) != m.w {
		return nil, api.ErrCode
	}
	hits := m.seen(q)
	var list []int
	for dist := range m.w + 1 {
		n := 0
		for _, h := range hits {
			if h.Dist == dist {
				n++
			}
		}
		list = append(list, n)
	}
	return list, api.OK
}

// turned is a code with up to n of its bits turned.
func turned(s *sample.Source, code string, n int) string {
	b := []byte(code)
	for range n {
		i := s.Below(8 * len(b))
		b[i/8] ^= 1 << (i % 8)
	}
	return string(b)
}

// pool are codes of w bits of which many are near each other, and some the same.
func pool(s *sample.Source, w, n int) []string {
	list := []string{string(make([]byte, w/8))}
	for len(list) < n {
		near := list[s.Below(len(list))]
		switch s.Below(4) {
		case 0:
			list = append(list, s.Text(w/8))
		case 1:
			list = append(list, near)
		default:
			list = append(list, turned(s, near, 1+s.Below(5)))
		}
	}
	return list
}

// shuffled are the same things in another order.
func shuffled[T any](s *sample.Source, list []T) []T {
	list = slices.Clone(list)
	for i := range list {
		j := i + s.Below(len(list)-i)
		list[i], list[j] = list[j], list[i]
	}
	return list
}

// told is something in words, not too many.
func told(what any) string {
	s := fmt.Sprintf("%+q", fmt.Sprintf("%+v", what))
	if len(s) > 1200 {
		s = s[:1200] + " .."
	}
	return s
}
