package group_test

import (
	"math"
	"slices"
	"testing"

	"kindred/api"
	"kindred/group"
	"kindred/internal/sample"
)

func unionOf(t *testing.T, ids ...int) *group.Union {
	t.Helper()
	u, e := group.New(ids)
	if u == nil || e != api.OK {
		t.Fatalf("20.1: New of %d ids: %d", len(ids), e)
	}
	return u
}

// of are groups of these ids.
func of(lists ...[]int) []api.Group {
	var groups []api.Group
	for _, ids := range lists {
		groups = append(groups, api.Group{IDs: ids})
	}
	return groups
}

func checkGroups(t *testing.T, u *group.Union, least int, want []api.Group) {
	t.Helper()
	if got := u.Groups(least); !sameGroups(got, want) {
		t.Errorf("20.1: Groups(%d) = %v, want %v", least, got, want)
	}
}

func TestNew(t *testing.T) {
	for _, c := range []struct {
		ids []int
		e   api.Errno
	}{
		{nil, api.OK}, {[]int{}, api.OK}, {[]int{0}, api.OK}, {[]int{1 << 48, 0, 5}, api.OK},
		{[]int{-1}, api.ErrID}, {[]int{1<<48 + 1}, api.ErrID}, {[]int{math.MinInt}, api.ErrID}, {[]int{math.MaxInt}, api.ErrID},
		{[]int{1, 2, 1}, api.ErrTwice}, {[]int{0, 0}, api.ErrTwice}, {[]int{1 << 48, 3, 1 << 48}, api.ErrTwice},
		// The first id that does not go is the reason, whatever stands behind it.
		{[]int{1, 1, -1}, api.ErrTwice}, {[]int{1, -1, 1}, api.ErrID}, {[]int{-1, -1}, api.ErrID}, {[]int{7, 1<<48 + 1, 7}, api.ErrID},
	} {
		if u, e := group.New(c.ids); e != c.e || (u != nil) != (e == api.OK) {
			t.Errorf("20.1: New(%v): %d, and a union: %v; want %d", c.ids, e, u != nil, c.e)
		}
	}
}

func TestUnionExamples(t *testing.T) {
	u := unionOf(t, 1, 2, 5, 9)
	for _, c := range []struct {
		a, b int
		e    api.Errno
	}{{9, 2, api.OK}, {2, 5, api.OK}, {1, 3, api.ErrGone}, {1, 1, api.OK}} {
		if e := u.Join(c.a, c.b); e != c.e {
			t.Errorf("20.1: Join(%d, %d): %d, want %d", c.a, c.b, e, c.e)
		}
	}
	for least, want := range map[int][]api.Group{
		1: of([]int{1}, []int{2, 5, 9}), -3: of([]int{1}, []int{2, 5, 9}), 0: of([]int{1}, []int{2, 5, 9}), math.MinInt: of([]int{1}, []int{2, 5, 9}),
		2: of([]int{2, 5, 9}), 3: of([]int{2, 5, 9}), 4: nil, math.MaxInt: nil,
	} {
		checkGroups(t, u, least, want)
	}
}

// TestJoinOfStrangers: an id that is not of the union joins nothing, and is not of it afterwards.
func TestJoinOfStrangers(t *testing.T) {
	u := unionOf(t, 4, 0, 1<<48)
	for _, c := range [][2]int{{4, 5}, {5, 4}, {5, 5}, {-1, 4}, {4, -1}, {1<<48 + 1, 0}, {0, 1<<48 - 1}, {math.MinInt, math.MaxInt}} {
		for range 2 {
			if e := u.Join(c[0], c[1]); e != api.ErrGone {
				t.Errorf("20.1: Join(%d, %d): %d, want %d", c[0], c[1], e, api.ErrGone)
			}
		}
	}
	checkGroups(t, u, 1, of([]int{0}, []int{4}, []int{1 << 48}))
	if e := u.Join(1<<48, 0); e != api.OK {
		t.Errorf("20.1: Join(2^48, 0): %d", e)
	}
	checkGroups(t, u, 1, of([]int{0, 1 << 48}, []int{4}))
}

// TestUnionByTheModel: made-up joins, of ids that are there, and of some that are not.
func TestUnionByTheModel(t *testing.T) {
	for seed := range 60 {
		g := sample.From(seed)
		n := 1 + g.Below(25)
		var ids []int
		for len(ids) < n {
			if id := []int{g.Below(40), 1<<48 - g.Below(40)}[g.Below(2)]; !slices.Contains(ids, id) {
				ids = append(ids, id)
			}
		}
		u, l := unionOf(t, ids...), labelsOf(ids)
		for range n + 5 {
			a, b, want := ids[g.Below(n)], ids[g.Below(n)], api.OK
			switch g.Below(8) {
			case 0:
				a = 50
			case 1:
				b = -3
			}
			if a == 50 || b == -3 {
				want = api.ErrGone
			} else {
				l.join(a, b)
			}
			if e := u.Join(a, b); e != want {
				t.Fatalf("20.1: seed %d: Join(%d, %d): %d, want %d", seed, a, b, e, want)
			}
			for least := -1; least <= n+1; least++ {
				checkGroups(t, u, least, l.groups(least))
			}
		}
	}
}

// TestUnionKeepsNoList: neither the ids handed in nor the groups answered are the union's own.
func TestUnionKeepsNoList(t *testing.T) {
	room := []int{9, 1, 5, 2, 77, 78}
	u := unionOf(t, room[:4]...)
	u.Join(9, 2)
	if !slices.Equal(room, []int{9, 1, 5, 2, 77, 78}) {
		t.Errorf("R4: New has changed the ids: %v", room)
	}
	for i := range room {
		room[i] = 1000
	}
	want := of([]int{1}, []int{2, 9}, []int{5})
	checkGroups(t, u, 1, want)
	groups, kept := u.Groups(1), u.Groups(2)
	for i := range groups {
		groups[i].IDs = append(groups[i].IDs, -1)
		full := groups[i].IDs[:cap(groups[i].IDs)]
		for j := range full {
			full[j] = -10 - i
		}
	}
	for i, g := range groups {
		if slices.ContainsFunc(g.IDs, func(id int) bool { return id != -10-i }) {
			t.Errorf("R4: two lists of an answer share memory: %v", groups)
		}
	}
	if !sameGroups(kept, of([]int{2, 9})) {
		t.Errorf("20.1: an answer is changed through another: %v", kept)
	}
	checkGroups(t, u, 1, want)
}

// TestUnionNobodyMade: it has no ids.
func TestUnionNobodyMade(t *testing.T) {
	for _, u := range []*group.Union{nil, {}, unionOf(t)} {
		if e := u.Join(0, 0); e != api.ErrGone {
			t.Errorf("20.1: Join in a union of none: %d", e)
		}
		checkGroups(t, u, 1, nil)
		checkGroups(t, u, -1, nil)
	}
}

// TestLongChains: joins come to an end, however the ids hang on one another.
func TestLongChains(t *testing.T) {
	const n = 300000
	ids := make([]int, n)
	for i := range ids {
		ids[i] = i
	}
	for name, at := range map[string]func(i int) (int, int){
		"from the first on": func(i int) (int, int) { return i, i + 1 },
		"from the last on":  func(i int) (int, int) { return n - 1 - i, n - 2 - i },
		"all with the last": func(i int) (int, int) { return i, n - 1 },
	} {
		u := unionOf(t, ids...)
		for i := range n - 1 {
			u.Join(at(i))
		}
		for i := range n - 1 {
			u.Join(n-1, n-1-i)
		}
		if g := u.Groups(n); len(g) != 1 || !slices.Equal(g[0].IDs, ids) {
			t.Errorf("20.1: %s: %d groups of all", name, len(g))
		}
	}
}
