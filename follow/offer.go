package follow

import (
	"slices"

	"kindred/api"
	"kindred/engine"
)

// Offer is what an engine sends a follower that is at a number, and wants pairs from one on. What is not synced is never sent: a power cut at the engine could take it back.
func Offer(e *engine.Engine, at, from, most int) (api.Batch, api.Errno) {
	if _, refusal := e.Pairs(0, 0); refusal != api.OK {
		return api.Batch{}, refusal
	}
	switch {
	case at < 0 || from < 0 || from > api.MaxID+1 || most < 1 || most > api.MaxBatch:
		return api.Batch{}, api.ErrRange
	case at > e.Synced():
		return api.Batch{}, api.ErrAhead
	}
	tail, reaches := e.Tail(at)
	if !reaches && e.Synced() == e.Seq() {
		return offerPairs(e, from, most)
	}
	// The engine's tail may go on behind what is synced; where it does not reach back, there is none.
	synced := min(len(tail), e.Synced()-at, most)
	return api.Batch{Kind: ofUpdates, At: at, Seq: at + synced, Updates: slices.Clone(tail[:synced])}, api.OK
}

// offerPairs is a piece of all pairs of an engine.
func offerPairs(e *engine.Engine, from, most int) (api.Batch, api.Errno) {
	pairs, refusal := e.Pairs(from, most+1) // one more tells whether there are further ones
	if refusal != api.OK {
		return api.Batch{}, refusal
	}
	piece := slices.Clone(pairs[:min(len(pairs), most)])
	return api.Batch{Kind: ofPairs, At: from, Seq: e.Seq(), Pairs: piece, Last: len(pairs) <= most}, api.OK
}
