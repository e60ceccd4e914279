package best

import (
	"cmp"
	"container/heap"
	"slices"
	"strings"

	"kindred/api"
)

// kept are unlike hits, as a heap of the library: the last one, by its order, stands at the root, where it can be pushed out.
type kept struct {
	order func(a, b api.Hit) int
	hits  []api.Hit
	there map[api.Hit]struct{} // the same hits
	gone  int                  // how many were taken out of the map since it was filled
}

// newKept are none yet; they will be ordered by distance, id, code.
func newKept() *kept {
	return &kept{order: compare, there: map[api.Hit]struct{}{}}
}

// compare orders hits by distance, id, code.
func compare(a, b api.Hit) int {
	if a.Dist != b.Dist {
		return cmp.Compare(a.Dist, b.Dist)
	}
	if a.ID != b.ID {
		return cmp.Compare(a.ID, b.ID)
	}
	return strings.Compare(a.Code, b.Code)
}

func (k *kept) Len() int { return len(k.hits) }

func (k *kept) Less(i, j int) bool { return k.order(k.hits[i], k.hits[j]) > 0 }

func (k *kept) Swap(i, j int) { k.hits[i], k.hits[j] = k.hits[j], k.hits[i] }

// Push is the heap's own way; add is the one to call.
func (k *kept) Push(h any) { k.hits = append(k.hits, h.(api.Hit)) }

// Pop is the heap's own way; dropLast is the one to call. Who drops a hit adds one, so nothing is held behind the end.
func (k *kept) Pop() any {
	end := len(k.hits) - 1
	h := k.hits[end]
	k.hits = k.hits[:end]
	return h
}

func (k *kept) has(h api.Hit) bool {
	_, ok := k.there[h]
	return ok
}

// add takes in a hit that is not there yet; its code may be a piece of something greater, which is not kept.
func (k *kept) add(h api.Hit) {
	h.Code = strings.Clone(h.Code)
	k.there[h] = struct{}{}
	heap.Push(k, h)
}

// last is the last hit, of one at least.
func (k *kept) last() api.Hit { return k.hits[0] }

// dropLast pushes the last hit out, of one at least.
func (k *kept) dropLast() {
	delete(k.there, heap.Pop(k).(api.Hit))
	k.gone++
	// A map holds room for keys that are gone, and grows by them: it is filled anew ahead of that.
	if k.gone > len(k.hits) {
		k.fill()
	}
}

// fill puts the hits into the map, which is emptied first.
func (k *kept) fill() {
	clear(k.there)
	for _, h := range k.hits {
		k.there[h] = struct{}{}
	}
	k.gone = 0
}

// list are all hits, in order.
func (k *kept) list() []api.Hit {
	if k == nil {
		return nil
	}
	list := slices.Clone(k.hits)
	slices.SortFunc(list, k.order)
	return list
}
