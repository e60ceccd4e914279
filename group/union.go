package group

import (
	"slices"

	"kindred/api"
)

// Union keeps which of some numbers hang together. One that nobody has made is a union of none.
type Union struct {
	ids    []int       // rising, so that a place tells the order
	places map[int]int // where an id stands among them
	above  []int       // of each place one of its group that is not behind it; the first of a group has itself
}

// New makes a union in which none do.
func New(ids []int) (*Union, api.Errno) {
	places := map[int]int{}
	for _, id := range ids {
		if id < 0 || id > api.MaxID {
			return nil, api.ErrID
		}
		if _, there := places[id]; there {
			return nil, api.ErrTwice
		}
		places[id] = 0
	}
	u := &Union{ids: slices.Sorted(slices.Values(ids)), places: places, above: make([]int, len(ids))}
	for place, id := range u.ids {
		u.places[id], u.above[place] = place, place
	}
	return u, api.OK
}

// Join joins two.
func (u *Union) Join(a, b int) api.Errno {
	if u == nil {
		return api.ErrGone
	}
	_, hasA := u.places[a]
	_, hasB := u.places[b]
	if !hasA || !hasB {
		return api.ErrGone
	}
	u.unite(a, b)
	return api.OK
}

// Groups are the groups of so many numbers at least.
func (u *Union) Groups(least int) []api.Group {
	if u == nil {
		return nil
	}
	var groups []api.Group
	of := make([]int, len(u.ids)) // of each place its group
	for place, id := range u.ids {
		if u.above[place] == place {
			of[place] = len(groups)
			groups = append(groups, api.Group{})
		} else {
			// What is above stands ahead, so that its group is known.
			of[place] = of[u.above[place]]
		}
		g := &groups[of[place]]
		g.IDs = append(g.IDs, id)
	}
	return slices.DeleteFunc(groups, func(g api.Group) bool { return len(g.IDs) < least })
}

// unite makes the groups of two ids of the union one: were they two?
func (u *Union) unite(a, b int) bool {
	x, y := u.first(u.places[a]), u.first(u.places[b])
	u.above[max(x, y)] = min(x, y)
	return x != y
}

// first is the first place of a group. On the way there it hangs each second place higher, so that no way stays long.
func (u *Union) first(place int) int {
	for u.above[place] != place {
		u.above[place] = u.above[u.above[place]]
		place = u.above[place]
	}
	return place
}
