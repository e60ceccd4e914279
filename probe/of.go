package probe

import (
	"cmp"
	"slices"
	"strings"

	"kindred/api"
	"kindred/bits"
)

// table is a chunk's values, and which pairs have each.
type table struct {
	values []int   // rising, each once
	places [][]int // of each value: where its pairs stand, rising
}

// Of is a source of these pairs.
func Of(w, m int, pairs []api.Pair) (Source, api.Errno) {
	if _, e := bits.Chunks(w, m); e != api.OK {
		return Source{}, e
	}
	if e := checkPairs(w, pairs); e != api.OK {
		return Source{}, e
	}
	own := sorted(pairs)
	tables := tablesOf(w, m, own)
	has := func(j int) bool { return j >= 0 && j < len(tables) }
	return Source{
		Width:  w,
		Chunks: m,
		Codes:  countCodes(own),
		Values: func(j int) []int {
			if !has(j) {
				return nil
			}
			return slices.Clone(tables[j].values)
		},
		At: func(j, value int) ([]api.Pair, api.Errno) {
			if !has(j) {
				return nil, api.OK
			}
			return tables[j].pick(own, value), api.OK
		},
	}, api.OK
}

// checkPairs looks whether a source can have these pairs.
func checkPairs(w int, pairs []api.Pair) api.Errno {
	ids := make(map[int]struct{}, len(pairs))
	for _, p := range pairs {
		if p.ID < 0 || p.ID > api.MaxID {
			return api.ErrID
		}
		if e := bits.Check(w, p.Code); e != api.OK {
			return e
		}
		if _, twice := ids[p.ID]; twice {
			return api.ErrTwice
		}
		ids[p.ID] = struct{}{}
	}
	return api.OK
}

// sorted are the same pairs, by code, then id; their codes may be pieces of something greater, which is not kept.
func sorted(pairs []api.Pair) []api.Pair {
	own := slices.Clone(pairs)
	slices.SortFunc(own, func(a, b api.Pair) int {
		if c := strings.Compare(a.Code, b.Code); c != 0 {
			return c
		}
		return cmp.Compare(a.ID, b.ID)
	})
	for i := range own {
		if i > 0 && own[i].Code == own[i-1].Code {
			own[i].Code = own[i-1].Code
		} else {
			own[i].Code = strings.Clone(own[i].Code)
		}
	}
	return own
}

// countCodes is how many unlike codes sorted pairs have.
func countCodes(pairs []api.Pair) int {
	n := 0
	for i, p := range pairs {
		if i == 0 || p.Code != pairs[i-1].Code {
			n++
		}
	}
	return n
}

// tablesOf are the tables of all chunks.
func tablesOf(w, m int, pairs []api.Pair) []table {
	columns := make([][]int, m)
	for j := range columns {
		columns[j] = make([]int, len(pairs))
	}
	for place, p := range pairs {
		values, _ := bits.Split(w, m, p.Code)
		for j, value := range values {
			columns[j][place] = value
		}
	}
	tables := make([]table, m)
	for j, column := range columns {
		tables[j] = tableOf(column)
	}
	return tables
}

// tableOf is the table of a chunk in which the pairs have these values.
func tableOf(column []int) table {
	order := make([]int, len(column))
	for place := range order {
		order[place] = place
	}
	slices.SortStableFunc(order, func(a, b int) int { return cmp.Compare(column[a], column[b]) })
	var t table
	for from := 0; from < len(order); {
		value, to := column[order[from]], from+1
		for to < len(order) && column[order[to]] == value {
			to++
		}
		t.values = append(t.values, value)
		t.places = append(t.places, order[from:to])
		from = to
	}
	return t
}

// pick are the pairs that have a value.
func (t table) pick(pairs []api.Pair, value int) []api.Pair {
	i, there := slices.BinarySearch(t.values, value)
	if !there {
		return nil
	}
	list := make([]api.Pair, len(t.places[i]))
	for n, place := range t.places[i] {
		list[n] = pairs[place]
	}
	return list
}
