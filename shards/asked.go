package shards

import (
	"kindred/api"
	"kindred/engine"
)

// own asks the engine to which an id belongs.
func (s *Shards) own(id int, ask func(e *engine.Engine) api.Errno) api.Errno {
	if s.isUnmade() {
		return api.ErrEmpty
	}
	return ask(s.engines[home(id, len(s.engines))])
}

// every asks every engine, in their order, also behind one that refuses, and answers the first refusal.
func (s *Shards) every(ask func(e *engine.Engine) api.Errno) api.Errno {
	if s.isUnmade() {
		return api.ErrEmpty
	}
	first := api.OK
	for _, e := range s.engines {
		if refusal := ask(e); first == api.OK {
			first = refusal
		}
	}
	return first
}

// search asks every engine for what is near to q, so many or so far, and answers a list of each.
func (s *Shards) search(ask func(e *engine.Engine, q string, bound int) ([]api.Hit, api.Stats, api.Errno), q string, bound int) ([][]api.Hit, api.Errno) {
	var lists [][]api.Hit
	refusal := s.every(func(e *engine.Engine) api.Errno {
		hits, _, refusal := ask(e, q, bound)
		lists = append(lists, hits)
		return refusal
	})
	return lists, refusal
}

func (s *Shards) isUnmade() bool { return s == nil || len(s.engines) == 0 }
