package probe

import (
	"iter"
	mathbits "math/bits"
	"slices"

	"kindred/api"
	"kindred/bits"
	"kindred/masks"
)

// search is one search under way.
type search struct {
	source Source
	query  string
	chunks []api.Chunk
	values []int // the query's, of each chunk
	asks   int   // how many lists of pairs have come so far
	found  map[string]candidate
	stats  api.Stats
}

// candidate is a code that was found: how far it is, and in which of the lists it came first.
type candidate struct {
	dist int
	ask  int
}

// keeper takes the pairs of the candidates, and lists those that are the answer.
type keeper interface {
	Add(h api.Hit) bool
	List() []api.Hit
}

// begin is a search that has gone through no shell yet; it refuses what all three searches refuse first.
func begin(s Source, q string) (*search, api.Errno) {
	chunks, e := bits.Chunks(s.Width, s.Chunks)
	if e != api.OK {
		return nil, e
	}
	if s.Codes < 0 || s.Values == nil || s.At == nil {
		return nil, api.ErrRange
	}
	values, e := bits.Split(s.Width, s.Chunks, q)
	if e != api.OK {
		return nil, e
	}
	return &search{source: s, query: q, chunks: chunks, values: values, found: map[string]candidate{}}, api.OK
}

// answer goes through the shells until the search ends, and is what the keeper lists then.
func (x *search) answer(to keeper, ends func(shells int) bool) ([]api.Hit, api.Stats, api.Errno) {
	for !ends(x.stats.Shells) && !x.exhausted() {
		if e := x.goThrough(x.stats.Shells, to); e != api.OK {
			return nil, api.Stats{}, e
		}
		x.stats.Shells++
	}
	x.stats.Codes = len(x.found)
	return to.List(), x.stats, api.OK
}

// exhausted: no further shell can find a code.
func (x *search) exhausted() bool {
	// No chunk has more bits than the first.
	return len(x.found) >= x.source.Codes || x.stats.Shells > x.chunks[0].Bits
}

// goThrough makes candidates of all codes that have a value of shell s.
func (x *search) goThrough(s int, to keeper) api.Errno {
	for j, value := range x.shell(s) {
		pairs, e := x.source.At(j, value)
		if e != api.OK {
			return e
		}
		x.meet(pairs, to)
	}
	return api.OK
}

// shell goes through the values of shell s that the source has, chunk by chunk.
func (x *search) shell(s int) iter.Seq2[int, int] {
	return func(yield func(j, value int) bool) {
		width, count := 0, 0
		for j, c := range x.chunks {
			if c.Bits < s {
				continue
			}
			// Chunks have two widths at most, and to count masks costs more than to ask for few values.
			if c.Bits != width {
				width = c.Bits
				count, _ = masks.Count(width, s)
			}
			for _, value := range x.near(j, s, count) {
				if !yield(j, value) {
					return
				}
			}
		}
	}
}

// near are the values of chunk j at distance s from the query's, of which there can be count. They stand in a list of the search's own: the source may need its list again when it is asked for pairs.
func (x *search) near(j, s, count int) []int {
	values := x.source.Values(j)
	x.stats.Steps += min(count, len(values))
	if count < len(values) {
		return x.masked(j, s, values)
	}
	var list []int
	for _, value := range values {
		if mathbits.OnesCount64(uint64(value^x.values[j])) == s {
			list = append(list, value)
		}
	}
	return list
}

// masked is what near is, by way of the masks: where they are fewer than the values.
func (x *search) masked(j, s int, values []int) []int {
	var list []int
	width := x.chunks[j].Bits
	for mask, ok := masks.First(width, s); ok; mask, ok = masks.Next(width, mask) {
		value := x.values[j] ^ int(mask)
		if _, there := slices.BinarySearch(values, value); there {
			list = append(list, value)
		}
	}
	return list
}

// meet hands on the pairs of a list whose codes are no candidates yet, and makes them candidates.
func (x *search) meet(pairs []api.Pair, to keeper) {
	x.asks++
	for _, p := range pairs {
		c, known := x.found[p.Code]
		if !known {
			dist, e := bits.Distance(x.query, p.Code)
			// Only a source that is not true has such a code.
			if e != api.OK {
				continue
			}
			c = candidate{dist: dist, ask: x.asks}
			x.found[p.Code] = c
		}
		// The list in which a code came first had all its pairs.
		if c.ask != x.asks {
			continue
		}
		x.stats.Pairs++
		to.Add(api.Hit{Dist: c.dist, ID: p.ID, Code: p.Code})
	}
}
