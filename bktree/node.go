package bktree

import (
	"slices"

	"kindred/bits"
)

// spare: with so few dead nodes beyond the live ones, making anew is not worth its steps.
const spare = 16

// node is a code's place; one that is dead leads on to those below it.
type node struct {
	code     string
	live     bool
	children map[int]*node // by their distances, which are not 0; most nodes have none, and no map
}

// way is how far a code's way down leads: the last node on it, that one's distance from the code, how many nodes stand on it.
type way struct {
	last  *node
	dist  int
	nodes int
}

// own is the code's own node, if there is one.
func (w way) own() *node {
	if w.dist != 0 {
		return nil
	}
	return w.last
}

// reach goes a code's way down.
func (t *Tree) reach(code string) way {
	var w way
	for next := t.root; next != nil; next = w.last.children[w.dist] {
		w.last = next
		w.dist, _ = bits.Distance(next.code, code)
		w.nodes++
	}
	return w
}

// find is the live node of a text, if there is one.
func (t *Tree) find(code string) *node {
	if !t.takes(code) {
		return nil
	}
	if own := t.reach(code).own(); own != nil && own.live {
		return own
	}
	return nil
}

// hang makes a live node at the end of its code's way.
func (t *Tree) hang(at way, code string) {
	n := &node{code: code, live: true}
	switch {
	case at.last == nil:
		t.root = n
	case at.last.children == nil:
		at.last.children = map[int]*node{at.dist: n}
	default:
		at.last.children[at.dist] = n
	}
	t.live++
	t.depth = max(t.depth, at.nodes+1)
}

// makeAnew leaves out the dead nodes.
func (t *Tree) makeAnew() {
	codes := t.codes()
	*t = Tree{width: t.width, looked: t.looked}
	for _, code := range codes {
		t.hang(t.reach(code), code)
	}
}

// codes are those that are there, rising.
func (t *Tree) codes() []string {
	list := make([]string, 0, t.live)
	wait := []*node{t.root}
	for len(wait) > 0 {
		n := wait[len(wait)-1]
		wait = wait[:len(wait)-1]
		if n.live {
			list = append(list, n.code)
		}
		for _, child := range n.children {
			wait = append(wait, child)
		}
	}
	slices.Sort(list)
	return list
}
