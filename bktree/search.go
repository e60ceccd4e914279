package bktree

import (
	"cmp"
	"slices"

	"kindred/api"
	"kindred/bits"
)

// step is a node that waits to be looked at: its distance from its parent, and the parent's from the query (of the root both are 0).
type step struct {
	node   *node
	edge   int
	parent int
}

// search looks at the nodes below which something wanted may be. What waits stands in a list, because a way may be too long for calls within calls.
func (t *Tree) search(q string, f *found) []api.Hit {
	may := func(s step) bool {
		return s.edge >= s.parent-f.bound && s.edge <= s.parent+f.bound
	}
	var wait []step
	if t.root != nil {
		wait = append(wait, step{node: t.root})
	}
	for len(wait) > 0 {
		s := wait[len(wait)-1]
		wait = wait[:len(wait)-1]
		// What went ahead of it may have brought the bound down since it was put there.
		if !may(s) {
			continue
		}
		t.looked++
		dist, _ := bits.Distance(s.node.code, q)
		if s.node.live {
			f.add(dist, s.node.code)
		}
		wait = s.node.await(wait, dist, may)
	}
	return f.hits()
}

// await puts behind what waits the children that may be looked at, the furthest first: the last is taken next. The bound never rises, so that one that may not now will not later.
func (n *node) await(wait []step, dist int, may func(step) bool) []step {
	from := len(wait)
	for edge, child := range n.children {
		if s := (step{node: child, edge: edge, parent: dist}); may(s) {
			wait = append(wait, s)
		}
	}
	slices.SortFunc(wait[from:], func(a, b step) int { return cmp.Compare(b.edge, a.edge) })
	return wait
}

// found are the codes that a search has met so far and may answer.
type found struct {
	k     int        // of further ones than the k-th none is wanted
	bound int        // nor of further ones than this
	count int        // how many there are
	codes [][]string // by their distances, up to the bound
}

// newFound is for the k nearest, and those as far as the k-th, of those within a bound; k is not 0.
func newFound(k, bound int) *found {
	return &found{k: k, bound: bound, codes: make([][]string, bound+1)}
}

// add takes a code, if it is not too far, and lets go those that are too far now.
func (f *found) add(dist int, code string) {
	if dist > f.bound {
		return
	}
	f.codes[dist] = append(f.codes[dist], code)
	f.count++
	for f.count-len(f.codes[f.bound]) >= f.k {
		f.count -= len(f.codes[f.bound])
		f.codes[f.bound] = nil
		f.bound--
	}
}

// hits are the codes by distance, then bytewise.
func (f *found) hits() []api.Hit {
	list := make([]api.Hit, 0, f.count)
	for dist, codes := range f.codes {
		slices.Sort(codes)
		for _, code := range codes {
			list = append(list, api.Hit{Dist: dist, Code: code})
		}
	}
	return list
}
