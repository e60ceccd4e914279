package keep

import "slices"

// slack is how many changes wait to be put in order at least.
const slack = 1024

// ordered is a map whose keys can be told in their order. They are put in order when somebody asks, and not at each change: there may be many changes between two questions, or none.
type ordered[V any] struct {
	at      map[int]V
	rising  []int // the keys, as they were when somebody asked last
	changed []int // those that have come or gone since
}

func newOrdered[V any]() ordered[V] { return ordered[V]{at: map[int]V{}} }

// put puts a value under a key.
func (o *ordered[V]) put(key int, value V) {
	before := len(o.at)
	o.at[key] = value
	if len(o.at) > before {
		o.note(key)
	}
}

// drop takes a key away that is there.
func (o *ordered[V]) drop(key int) {
	delete(o.at, key)
	o.note(key)
}

// keys are all keys, rising. The list is the map's own.
func (o *ordered[V]) keys() []int {
	if len(o.changed) > 0 {
		o.settle()
	}
	return o.rising
}

// note keeps in mind that a key has come or gone. If nobody asks for long, so that there are more notes than keys, they are put in order all the same, lest they grow without end.
func (o *ordered[V]) note(key int) {
	o.changed = append(o.changed, key)
	if len(o.changed) > slack+len(o.rising) {
		o.settle()
	}
}

// settle puts the keys in order: of those that have changed just those stay that are there now.
func (o *ordered[V]) settle() {
	slices.Sort(o.changed)
	old, list := o.rising, make([]int, 0, len(o.at))
	for _, key := range slices.Compact(o.changed) {
		place, was := slices.BinarySearch(old, key)
		list = append(list, old[:place]...)
		old = old[place:]
		if was {
			old = old[1:]
		}
		if _, is := o.at[key]; is {
			list = append(list, key)
		}
	}
	o.rising, o.changed = append(list, old...), nil
}
