package engine

import (
	"kindred/api"
	"kindred/compact"
	"kindred/keep"
)

// over is an engine over a keep, unless there is a refusal in its place.
func over(k *keep.Keep, refusal api.Errno) (*Engine, api.Errno) {
	if refusal != api.OK {
		return nil, refusal
	}
	return &Engine{keep: k, compactor: compact.New(k), finder: finderOver(k), opts: k.Seen().Opts}, api.OK
}

// call does what a call of the engine does, unless the engine is closed, the power is off, or the keep is given up.
func (e *Engine) call(do func() api.Errno) api.Errno {
	if e.isClosed() {
		return api.ErrClosed
	}
	// There is no such table: of the keep's questions this one is refused for want of power alone.
	if _, refusal := e.keep.At(-1, 0); refusal != api.OK {
		return refusal
	}
	return do()
}

// search is a call that asks the finder for hits.
func (e *Engine) search(ask func() ([]api.Hit, api.Stats, api.Errno)) ([]api.Hit, api.Stats, api.Errno) {
	var hits []api.Hit
	var stats api.Stats
	refusal := e.call(func() (refusal api.Errno) {
		hits, stats, refusal = ask()
		return refusal
	})
	return hits, stats, refusal
}

// isClosed: the engine was closed, or never made.
func (e *Engine) isClosed() bool { return e == nil || e.keep == nil }

// figures are what the engine tells now. (A keep that is given up goes on telling what it knew.)
func (e *Engine) figures() figures {
	switch {
	case e == nil:
		return figures{}
	case e.isClosed():
		return e.last
	}
	return figures{count: e.keep.Count(), codes: e.keep.Codes(), seq: e.keep.Seq(), synced: e.keep.Synced()}
}
