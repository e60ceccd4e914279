package keep

import (
	"cmp"
	"slices"
	"strings"

	"kindred/api"
	"kindred/bits"
)

// living are the pairs that live. They stand in maps by their ids, by their codes, and by their codes' values in each table, so that an update need not go through many of them; each list in a map is in no order, and is sorted ahead of telling.
type living struct {
	opts   api.Opts
	ids    ordered[member]
	codes  map[string]*cluster
	tables []ordered[[]*cluster]
}

// cluster is a code and the pairs that have it.
type cluster struct {
	code   string
	ids    []int
	places []int // where it stands, in each table, among the codes of its value there
}

// member is a pair by its id: its code, and where the id stands among those that have the code.
type member struct {
	of    *cluster
	place int
}

// newLiving is without pairs.
func newLiving(o api.Opts) *living {
	l := &living{opts: o, ids: newOrdered[member](), codes: map[string]*cluster{}}
	for range max(o.Chunks, 1) {
		l.tables = append(l.tables, newOrdered[[]*cluster]())
	}
	return l
}

func (l *living) count() int { return len(l.ids.at) }

// code is that of a pair, if it lives.
func (l *living) code(id int) (string, bool) {
	m, lives := l.ids.at[id]
	if !lives {
		return "", false
	}
	return m.of.code, true
}

// pairs are those from an id on, ids rising, most at most.
func (l *living) pairs(from, most int) []api.Pair {
	ids := l.ids.keys()
	first, _ := slices.BinarySearch(ids, from)
	ids = ids[first:]
	list := make([]api.Pair, min(len(ids), max(most, 0)))
	for i := range list {
		list[i] = api.Pair{ID: ids[i], Code: l.ids.at[ids[i]].of.code}
	}
	return list
}

// values are those that the codes have in table j, rising.
func (l *living) values(j int) []int {
	if !l.hasTable(j) {
		return nil
	}
	return slices.Clone(l.tables[j].keys())
}

// having are the pairs whose codes have a value in table j, by code, then id.
func (l *living) having(j, value int) []api.Pair {
	if !l.hasTable(j) {
		return nil
	}
	var list []api.Pair
	for _, c := range l.tables[j].at[value] {
		for _, id := range c.ids {
			list = append(list, api.Pair{ID: id, Code: c.code})
		}
	}
	slices.SortFunc(list, func(a, b api.Pair) int {
		return cmp.Or(strings.Compare(a.Code, b.Code), cmp.Compare(a.ID, b.ID))
	})
	return list
}

// add lets a pair live whose id does not.
func (l *living) add(id int, code string) {
	c := l.codes[code]
	if c == nil {
		// The code may be a piece of a whole file, which is not kept.
		c = l.begin(strings.Clone(code))
	}
	l.ids.put(id, member{of: c, place: len(c.ids)})
	c.ids = append(c.ids, id)
}

// drop lets a pair live no more.
func (l *living) drop(id int) {
	m := l.ids.at[id]
	c := m.of
	c.ids = without(c.ids, m.place, func(last int) { l.ids.put(last, m) })
	l.ids.drop(id)
	if len(c.ids) == 0 {
		l.end(c)
	}
}

// begin puts a code that no pair has yet into the tables.
func (l *living) begin(code string) *cluster {
	c := &cluster{code: code, places: make([]int, len(l.tables))}
	l.codes[code] = c
	for j, value := range l.split(code) {
		t := &l.tables[j]
		list := t.at[value]
		c.places[j] = len(list)
		t.put(value, append(list, c))
	}
	return c
}

// end takes a code that no pair has any more out of the tables.
func (l *living) end(c *cluster) {
	delete(l.codes, c.code)
	for j, value := range l.split(c.code) {
		t := &l.tables[j]
		list := without(t.at[value], c.places[j], func(last *cluster) { last.places[j] = c.places[j] })
		if len(list) == 0 {
			t.drop(value)
		} else {
			t.put(value, list)
		}
	}
}

// split are a code's values in all tables.
func (l *living) split(code string) []int {
	if l.opts.Mode == api.Treed {
		return []int{0}
	}
	values, _ := bits.Split(l.opts.Width, l.opts.Chunks, code)
	return values
}

// hasTable: there is a table j.
func (l *living) hasTable(j int) bool { return j >= 0 && j < len(l.tables) }

// without is a list in no order without what stands at a place: the last one, which is told, comes there.
func without[T any](list []T, place int, moves func(last T)) []T {
	end := len(list) - 1
	moves(list[end])
	list[place] = list[end]
	return slices.Delete(list, end, end+1) // and so the list holds nothing on that is gone
}
