package engine

import (
	"cmp"
	"slices"
	"strings"

	"kindred/api"
	"kindred/bktree"
)

// treed finds by a tree of the codes. The tree knows nothing of ids: which pairs have a code stands beside it.
type treed struct {
	tree     *bktree.Tree
	clusters map[string]*api.Cluster // by their codes; their ids in no order
	spots    map[int]spot
}

// spot is where an id stands: in which cluster, and at which place of its list.
type spot struct {
	of    *api.Cluster
	place int
}

func newTreed(width int) *treed {
	return &treed{tree: bktree.New(width), clusters: map[string]*api.Cluster{}, spots: map[int]spot{}}
}

func (t *treed) add(id int, code string) {
	c := t.clusters[code]
	if c == nil {
		c = t.begin(code)
	}
	t.spots[id] = spot{of: c, place: len(c.IDs)}
	c.IDs = append(c.IDs, id)
}

func (t *treed) drop(id int) {
	s := t.spots[id]
	c, end := s.of, len(s.of.IDs)-1
	last := c.IDs[end]
	c.IDs[s.place], t.spots[last] = last, s
	c.IDs = c.IDs[:end]
	delete(t.spots, id)
	if end == 0 {
		t.tree.Drop(c.Code)
		delete(t.clusters, c.Code)
	}
}

// begin hangs a code that no pair has yet into the tree.
func (t *treed) begin(code string) *api.Cluster {
	// The code may be a piece of something greater, which is not kept.
	c := &api.Cluster{Code: strings.Clone(code)}
	t.clusters[c.Code] = c
	t.tree.Add(c.Code)
	return c
}

func (t *treed) topK(q string, k int) ([]api.Hit, api.Stats, api.Errno) {
	codes, refusal := t.tree.Nearest(q, k)
	if refusal != api.OK {
		return nil, api.Stats{}, refusal
	}
	return t.first(k, codes), api.Stats{}, api.OK
}

func (t *treed) radius(q string, r int) ([]api.Hit, api.Stats, api.Errno) {
	codes, refusal := t.tree.Within(q, r)
	if refusal != api.OK {
		return nil, api.Stats{}, refusal
	}
	return t.first(len(t.spots), codes), api.Stats{}, api.OK
}

func (t *treed) few(q string, k, shells int) ([]api.Hit, api.Stats, api.Errno) {
	return nil, api.Stats{}, api.ErrMode
}

// first are the first so many hits of the pairs that have these codes, which stand by their distances.
func (t *treed) first(most int, codes []api.Hit) []api.Hit {
	var list []api.Hit
	far := 0
	for _, c := range codes {
		// Of further codes no pair is wanted any more.
		if len(list) >= most && c.Dist > far {
			break
		}
		far = c.Dist
		for _, id := range t.clusters[c.Code].IDs {
			list = append(list, api.Hit{Dist: c.Dist, ID: id, Code: c.Code})
		}
	}
	slices.SortFunc(list, func(a, b api.Hit) int {
		return cmp.Or(cmp.Compare(a.Dist, b.Dist), cmp.Compare(a.ID, b.ID))
	})
	return list[:min(most, len(list))]
}
