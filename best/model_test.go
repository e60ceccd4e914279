package best_test

import (
	"bytes"
	"fmt"
	"math/big"
	"slices"

	"kindred/api"
	"kindred/internal/sample"
)

// A second writing of the chapter: all that was handed in stands in a list, of which the first ones are looked for anew at each question.

// comesAhead: hit a comes ahead of hit b (the chapter's words; the numbers are held against each other without a bound).
func comesAhead(a, b api.Hit) bool {
	if c := number(a.Dist).Cmp(number(b.Dist)); c != 0 {
		return c < 0
	}
	if c := number(a.ID).Cmp(number(b.ID)); c != 0 {
		return c < 0
	}
	return bytes.Compare([]byte(a.Code), []byte(b.Code)) < 0
}

func number(n int) *big.Int { return big.NewInt(int64(n)) }

// unlike are the hits of some lists, in order, each once.
func unlike(lists ...[]api.Hit) []api.Hit {
	var all []api.Hit
	for _, list := range lists {
		for _, h := range list {
			place := 0
			for place < len(all) && comesAhead(all[place], h) {
				place++
			}
			if place == len(all) || comesAhead(h, all[place]) {
				all = slices.Insert(all, place, h)
			}
		}
	}
	return all
}

// firstOf are the first k of some lists.
func firstOf(k int, lists ...[]api.Hit) []api.Hit {
	all := unlike(lists...)
	return all[:min(k, len(all))]
}

// within are the hits of some lists at most r away.
func within(r int, lists ...[]api.Hit) []api.Hit {
	var near []api.Hit
	for _, h := range unlike(lists...) {
		if number(h.Dist).Cmp(number(r)) <= 0 {
			near = append(near, h)
		}
	}
	return near
}

// worstOf is what a top of k tells as its worst.
func worstOf(k int, kept []api.Hit) (int, bool) {
	if k == 0 {
		return -1, true
	}
	if len(kept) < k {
		return 0, false
	}
	return kept[k-1].Dist, true
}

// mixed is a row of hits that are near each other, so that many are the same and many like in parts.
func mixed(s *sample.Source, n int) []api.Hit {
	codes := []string{"", "\x00", "\x00\x00", "a", "ab", "b", "\x7f", "\x80", "\xff", "é", "z"}
	dists := []int{-1 << 63, -1025, -1, 0, 1, 2, 3, 63, 64, 1023, 1024, 1025, 1<<63 - 1}
	ids := []int{-1 << 63, -1, 0, 1, 7, 1 << 48, 1<<48 + 1, 1<<63 - 1}
	list := make([]api.Hit, n)
	for i := range list {
		list[i] = api.Hit{Dist: dists[s.Below(len(dists))], ID: ids[s.Below(len(ids))], Code: codes[s.Below(len(codes))]}
	}
	return list
}

// few is a row of hits out of some twenty.
func few(s *sample.Source, n int) []api.Hit {
	list := make([]api.Hit, n)
	for i := range list {
		list[i] = api.Hit{Dist: s.Below(4), ID: s.Below(3), Code: []string{"a", "b"}[s.Below(2)]}
	}
	return list
}

// shuffled are the same hits in another order.
func shuffled(s *sample.Source, list []api.Hit) []api.Hit {
	list = slices.Clone(list)
	for i := range list {
		j := i + s.Below(len(list)-i)
		list[i], list[j] = list[j], list[i]
	}
	return list
}

// told is something in words, not too many.
func told(what any) string {
	s := fmt.Sprintf("%+q", fmt.Sprintf("%+v", what))
	if len(s) > 1200 {
		s = s[:1200] + " .."
	}
	return s
}
