package inspect

import (
	"maps"
	"slices"

	"kindred/api"
)

// word is what an update said of a pair.
type word struct {
	seq  int
	dead bool
}

// words are what runs say: the last word about each pair, and the numbers of all.
type words struct {
	last map[api.Pair]word
	seqs []int
}

func newWords() *words { return &words{last: map[api.Pair]word{}} }

// add takes the words of a later run.
func (w *words) add(list []api.Entry) {
	for _, e := range list {
		w.seqs = append(w.seqs, e.Seq)
		pair := api.Pair{ID: e.ID, Code: e.Code}
		if e.Seq >= w.last[pair].seq {
			w.last[pair] = word{seq: e.Seq, dead: e.Dead}
		}
	}
}

// living are the pairs that live by the last words, and whether these go together: no two words have one number, no id has two codes, and the pairs are not too many. Of an id with several codes the last one counts, or the least of those with one number.
func (w *words) living() (living, bool) {
	all := living{}
	goes := true
	for pair, last := range w.last {
		if last.dead {
			continue
		}
		was, lives := all[pair.ID]
		if !lives || last.seq > was.seq || last.seq == was.seq && pair.Code < was.code {
			all[pair.ID] = put{code: pair.Code, seq: last.seq}
		}
		goes = goes && !lives
	}
	slices.Sort(w.seqs)
	count := len(w.seqs)
	return all, goes && len(all) <= api.MaxPairs && len(slices.Compact(w.seqs)) == count
}

// put is the code that an id has, and the number of the word that said it.
type put struct {
	code string
	seq  int
}

// living are the pairs that live, by their ids.
type living map[int]put

// play makes updates one by one, whatever lives, and tells whether each of them could be made.
func (l living) play(updates []api.Update) bool {
	goes := true
	spoken := map[api.Pair]struct{}{}
	for _, u := range updates {
		was, lives := l[u.ID]
		pair := api.Pair{ID: u.ID, Code: u.Code}
		if u.Kind == api.Put {
			l[u.ID] = put{code: u.Code, seq: u.Seq}
		} else {
			pair.Code = was.code
			delete(l, u.ID)
		}
		spoken[pair] = struct{}{}
		goes = goes && lives == (u.Kind == api.Dead) && len(l) <= api.MaxPairs && len(spoken) <= api.MaxDelta
	}
	return goes
}

// saved are the pairs, by their ids, as many as can live.
func (l living) saved() []api.Pair {
	ids := slices.Sorted(maps.Keys(l))
	list := make([]api.Pair, min(len(ids), api.MaxPairs))
	for i := range list {
		list[i] = api.Pair{ID: ids[i], Code: l[ids[i]].code}
	}
	return list
}
