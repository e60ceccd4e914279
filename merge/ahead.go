package merge

import (
	"container/heap"

	"kindred/api"
)

// stand is where a source stands: the last entry that it has given, if it has given one.
type stand struct {
	source Source
	number int // among the sources
	entry  api.Entry
	given  bool
}

// ahead are the sources that have an entry ahead, as a heap of the library: the least place first, at one place the least Seq.
type ahead []*stand

func (a ahead) Len() int { return len(a) }

func (a ahead) Less(i, j int) bool {
	if c := Compare(a[i].entry, a[j].entry); c != 0 {
		return c < 0
	}
	return a[i].entry.Seq < a[j].entry.Seq
}

func (a ahead) Swap(i, j int) { a[i], a[j] = a[j], a[i] }

// Push is the heap's own way; add is the one to call.
func (a *ahead) Push(s any) { *a = append(*a, s.(*stand)) }

// Pop is the heap's own way; least is the one to call.
func (a *ahead) Pop() any {
	end := len(*a) - 1
	s := (*a)[end]
	(*a)[end] = nil // or the source would be held behind its end
	*a = (*a)[:end]
	return s
}

func (a *ahead) add(s *stand) { heap.Push(a, s) }

// least takes out the sources that stand at the least place, by rising Seq.
func (a *ahead) least() []*stand {
	var least []*stand
	for len(*a) > 0 && (len(least) == 0 || Compare((*a)[0].entry, least[0].entry) == 0) {
		least = append(least, heap.Pop(a).(*stand))
	}
	return least
}
