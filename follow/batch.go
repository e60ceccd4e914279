package follow

import "kindred/api"

// Kinds of batches.
const (
	ofUpdates = 1
	ofPairs   = 2
)

// isBatch: it is a batch of one of the two kinds, whoever is sent it.
func isBatch(b api.Batch) bool {
	if !isNumber(b.At) || !isNumber(b.Seq) {
		return false
	}
	switch b.Kind {
	case ofUpdates:
		return len(b.Pairs) == 0 && !b.Last && isTail(b.At, b.Seq, b.Updates)
	case ofPairs:
		return len(b.Updates) == 0 && (len(b.Pairs) > 0 || b.Last) && isPiece(b.At, b.Pairs)
	}
	return false
}

// isNumber: an update may have it, or it is that ahead of the first one.
func isNumber(n int) bool { return n >= 0 && n <= api.MaxSeq }

// isTail: these are the updates behind the at-th up to the seq-th, and not too many.
func isTail(at, seq int, updates []api.Update) bool {
	if len(updates) > api.MaxBatch || seq != at+len(updates) {
		return false
	}
	for i, u := range updates {
		if u.Seq != at+1+i {
			return false
		}
	}
	return true
}

// isPiece: these are pairs from an id on, ids rising, and not too many.
func isPiece(from int, pairs []api.Pair) bool {
	if len(pairs) > api.MaxBatch {
		return false
	}
	for i, p := range pairs {
		if p.ID < from || i > 0 && p.ID <= pairs[i-1].ID {
			return false
		}
	}
	return true
}
