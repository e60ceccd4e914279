package merge_test

import (
	"bytes"
	"cmp"
	"math"
	"slices"

	"kindred/api"
	"kindred/internal/sample"
	"kindred/merge"
)

type list = []api.Entry

// place is what entries are ordered by.
type place struct {
	value int
	code  string
	id    int
}

func placeOf(e api.Entry) place { return place{e.Value, e.Code, e.ID} }

// order is by Value, then Code (bytewise), then ID.
func order(a, b place) int {
	return cmp.Or(cmp.Compare(a.value, b.value), bytes.Compare([]byte(a.code), []byte(b.code)), cmp.Compare(a.id, b.id))
}

// rises: each place is above the one ahead of it.
func rises(l list) bool {
	for i := 1; i < len(l); i++ {
		if order(placeOf(l[i]), placeOf(l[i-1])) != 1 {
			return false
		}
	}
	return true
}

// merged is 7.2, by a map of all places.
func merged(lists []list, bottom bool) (list, api.Errno) {
	if len(lists) > 1024 {
		return nil, api.ErrMany
	}
	at := map[place]list{}
	for _, l := range lists {
		if !rises(l) {
			return nil, api.ErrOrder
		}
		for _, e := range l {
			at[placeOf(e)] = append(at[placeOf(e)], e)
		}
	}
	var all list
	for _, words := range at {
		last := words[0]
		seen := map[int]bool{}
		for _, e := range words {
			if seen[e.Seq] {
				return nil, api.ErrSeq
			}
			seen[e.Seq] = true
			if e.Seq > last.Seq {
				last = e
			}
		}
		if !bottom || !last.Dead {
			all = append(all, last)
		}
	}
	slices.SortFunc(all, func(a, b api.Entry) int { return order(placeOf(a), placeOf(b)) })
	return all, api.OK
}

// answer is what a call of Next answers.
type answer struct {
	entry api.Entry
	ok    bool
	e     api.Errno
}

// script are a source's answers, from the first on; then there are no more. Nothing: a source without Next.
type script []answer

// gives is the script of a list.
func gives(l list) script {
	s := script{}
	for _, e := range l {
		s = append(s, answer{entry: e, ok: true})
	}
	return s
}

// asked is the log of which sources were asked, by their numbers, in the order in which they were.
type asked struct{ log []int }

// sources give what scripts say, and write into the log.
func (a *asked) sources(scripts []script) []merge.Source {
	sources := make([]merge.Source, len(scripts))
	for i, s := range scripts {
		if s == nil {
			continue
		}
		left := s
		sources[i].Next = func() (api.Entry, bool, api.Errno) {
			a.log = append(a.log, i)
			if len(left) == 0 {
				return api.Entry{}, false, api.OK
			}
			x := left[0]
			left = left[1:]
			return x.entry, x.ok, x.e
		}
	}
	return sources
}

// plain is a merger by the words of 7.5 and 7.6, without a heap: it looks at all sources at each step.
type plain struct {
	left    []script
	stands  []*api.Entry
	bottom  bool
	begun   bool
	refused api.Errno
	log     []int
}

func plainly(scripts []script, bottom bool) *plain {
	return &plain{left: slices.Clone(scripts), stands: make([]*api.Entry, len(scripts)), bottom: bottom}
}

// ask asks source i for its next entry.
func (p *plain) ask(i int) api.Errno {
	p.log = append(p.log, i)
	was := p.stands[i]
	p.stands[i] = nil
	if len(p.left[i]) == 0 {
		return api.OK
	}
	x := p.left[i][0]
	p.left[i] = p.left[i][1:]
	if x.e != api.OK {
		return x.e
	}
	if !x.ok {
		return api.OK
	}
	if was != nil && order(placeOf(x.entry), placeOf(*was)) < 1 {
		return api.ErrOrder
	}
	p.stands[i] = &x.entry
	return api.OK
}

// askAll asks sources, from the first on, as long as none refuses.
func (p *plain) askAll(numbers []int) {
	for _, i := range numbers {
		if p.refused == api.OK {
			p.refused = p.ask(i)
		}
	}
}

// least are the numbers of the sources that stand at the least place, from the first on.
func (p *plain) least() []int {
	var numbers []int
	for i, e := range p.stands {
		if e == nil {
			continue
		}
		if len(numbers) > 0 {
			c := order(placeOf(*e), placeOf(*p.stands[numbers[0]]))
			if c > 0 {
				continue
			}
			if c < 0 {
				numbers = nil
			}
		}
		numbers = append(numbers, i)
	}
	return numbers
}

// counts is the entry of the greatest Seq among those at which sources stand; or ErrSeq.
func (p *plain) counts(numbers []int) (api.Entry, api.Errno) {
	last := *p.stands[numbers[0]]
	for k, i := range numbers {
		for _, j := range numbers[:k] {
			if p.stands[i].Seq == p.stands[j].Seq {
				return api.Entry{}, api.ErrSeq
			}
		}
		if p.stands[i].Seq > last.Seq {
			last = *p.stands[i]
		}
	}
	return last, api.OK
}

func (p *plain) next() answer {
	if !p.begun {
		p.begun = true
		for i, s := range p.left {
			if s != nil {
				p.askAll([]int{i})
			}
		}
	}
	for p.refused == api.OK {
		numbers := p.least()
		if numbers == nil {
			return answer{}
		}
		var last api.Entry
		if last, p.refused = p.counts(numbers); p.refused != api.OK {
			break
		}
		p.askAll(numbers)
		if p.refused == api.OK && (!last.Dead || !p.bottom) {
			return answer{entry: last, ok: true}
		}
	}
	return answer{e: p.refused}
}

// edges are numbers at which a difference taken for an order wraps.
var edges = []int{math.MinInt, math.MinInt + 1, -1 << 62, -1 << 32, -1 << 31, -2, -1, 0, 1, 2, 1<<31 - 1, 1 << 31, 1 << 32, 1 << 60, 1 << 62, math.MaxInt - 1, math.MaxInt}

// codes are texts whose order is not that of their lengths, runes or signed bytes; they rise.
var codes = []string{"", "\x00", "\x00\x00", "\x00a", "A", "a", "a\x00", "aa", "aa\xff", "ab", "a\x7f", "a\x80", "b", "\x7f", "\x80", "\xc3\xa9", "\xef\xbf\xbd", "\xf0\x90\x80\x80", "\xff", "\xff\x00", "\xff\xff"}

// maker makes up entries, lists and scripts.
type maker struct{ *sample.Source }

func pick[T any](m maker, from []T) T { return from[m.Below(len(from))] }

// among are few numbers, or those at the edges, or any.
func (m maker) among(few int) int {
	switch m.Below(8) {
	case 0:
		return pick(m, edges)
	case 1:
		return int(m.Next())
	}
	return m.Below(few)
}

// entry has one of few places mostly, so that lists meet.
func (m maker) entry() api.Entry {
	e := api.Entry{Value: m.among(3), Code: pick(m, []string{"a", "b"}), ID: m.among(3), Seq: m.among(9), Dead: m.Below(2) == 0}
	if m.Below(6) == 0 {
		e.Code = pick(m, codes)
	}
	return e
}

// rising is a list of up to n entries.
func (m maker) rising(n int) list {
	var l list
	for range m.Below(n + 1) {
		l = append(l, m.entry())
	}
	slices.SortStableFunc(l, func(a, b api.Entry) int { return order(placeOf(a), placeOf(b)) })
	return slices.CompactFunc(l, func(a, b api.Entry) bool { return placeOf(a) == placeOf(b) })
}

// spoilt is a list that rises no more, if there are two entries in it.
func (m maker) spoilt(l list) list {
	if len(l) < 2 {
		return l
	}
	i := 1 + m.Below(len(l)-1)
	if m.Below(2) == 0 {
		l[i-1], l[i] = l[i], l[i-1]
	} else {
		l[i].Value, l[i].Code, l[i].ID = l[i-1].Value, l[i-1].Code, l[i-1].ID
	}
	return l
}

// lists are up to n of them, each with up to most entries; one in so many is spoilt.
func (m maker) lists(n, most, spoil int) []list {
	lists := make([]list, m.Below(n+1))
	for i := range lists {
		lists[i] = m.rising(most)
		if m.Below(spoil) == 0 {
			lists[i] = m.spoilt(lists[i])
		}
	}
	return lists
}

// apart gives the entries of all lists unlike Seqs, so that no merge of them is refused.
func (m maker) apart(lists []list) []list {
	n := 0
	for _, l := range lists {
		n += len(l)
	}
	numbers := make([]int, n)
	for i := range numbers {
		j := m.Below(i + 1)
		numbers[i] = numbers[j]
		numbers[j] = i - n/2
	}
	for _, l := range lists {
		for i := range l {
			l[i].Seq, numbers = numbers[0], numbers[1:]
		}
	}
	return lists
}

// scripts are those of lists, some with a refusal, an end with an entry, or something behind the end.
func (m maker) scripts(lists []list) []script {
	scripts := make([]script, len(lists))
	for i, l := range lists {
		if len(l) == 0 && m.Below(2) == 0 {
			continue
		}
		scripts[i] = gives(l)
		if m.Below(5) > 0 {
			continue
		}
		odd := answer{e: api.Errno(pick(m, []int{1, 45, 43, 50, 51, -1, math.MinInt, math.MaxInt}))}
		switch m.Below(4) {
		case 0:
			odd = answer{entry: m.entry()}
		case 1:
			odd.entry, odd.ok = m.entry(), m.Below(2) == 0
		}
		scripts[i] = slices.Insert(scripts[i], m.Below(len(l)+1), odd)
	}
	return scripts
}
