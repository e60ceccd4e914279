package follow

import (
	"slices"
	"strings"

	"kindred/api"
	"kindred/compact"
)

// take does what a batch asks for, unless it is refused.
func (f *Follower) take(b api.Batch) api.Errno {
	for _, ask := range f.refusals(b) {
		if refusal := ask(); refusal != api.OK {
			return refusal
		}
	}
	deeds := map[int]func(f *Follower, b api.Batch) api.Errno{
		ofUpdates: (*Follower).takeUpdates,
		ofPairs:   (*Follower).takePairs,
	}
	return deeds[b.Kind](f, b)
}

// refusals are what a batch is refused for ahead of all writing, in their order. Each may count on those ahead of it.
func (f *Follower) refusals(b api.Batch) []func() api.Errno {
	tail, piece := b.Kind == ofUpdates, b.Kind == ofPairs
	return []func() api.Errno{
		f.power,
		func() api.Errno { return unless(isBatch(b), api.ErrBatch) },
		func() api.Errno { return unless(!tail || b.At == f.Number(), api.ErrApart) },
		func() api.Errno { return unless(!tail || f.canMake(b.Updates), api.ErrDiverged) },
		func() api.Errno { return unless(!piece || b.Seq > f.Number(), api.ErrApart) },
		func() api.Errno {
			if piece && b.Seq != f.asOf {
				f.forget()
			}
			return unless(!piece || b.At == f.From(), api.ErrApart)
		},
		func() api.Errno {
			fit := len(f.gathered)+len(b.Pairs) <= api.MaxPairs
			if !fit {
				f.forget()
			}
			return unless(fit, api.ErrMany)
		},
	}
}

// unless is a refusal, unless something is so.
func unless(so bool, refusal api.Errno) api.Errno {
	if so {
		return api.OK
	}
	return refusal
}

// canMake: these updates could be made, one behind the other, on the pairs that there are. It is tried on those of them alone that the updates speak of.
func (f *Follower) canMake(updates []api.Update) bool {
	var spokenOf []api.Pair
	for _, u := range updates {
		if code, refusal := f.keep.Get(u.ID); refusal == api.OK {
			spokenOf = append(spokenOf, api.Pair{ID: u.ID, Code: code})
		}
	}
	m := f.mapOf(spokenOf)
	counted := slices.Clone(updates)
	for i := range counted {
		counted[i].Seq = m.Seq() + 1 + i // the map counts by itself
	}
	_, refusal := m.Play(counted)
	return refusal == api.OK && f.hasRoom(updates)
}

// hasRoom: at no time there would be too many pairs.
func (f *Follower) hasRoom(updates []api.Update) bool {
	count := f.keep.Count()
	for _, u := range updates {
		if u.Kind == api.Dead {
			count--
		} else {
			count++
		}
		if count > api.MaxPairs {
			return false
		}
	}
	return true
}

// takeUpdates makes a batch's updates, as far as they can be, and what was made durable.
func (f *Follower) takeUpdates(b api.Batch) api.Errno {
	if len(b.Updates) == 0 {
		return api.OK
	}
	f.forget()
	made, refusal := f.makeAll(b.Updates)
	if made > 0 {
		// Also behind a refusal: those ahead of it stay made. (Where the power has gone, this is refused for that, too.)
		if e := f.keep.Sync(); e != api.OK {
			return e
		}
	}
	if refusal != api.OK {
		return refusal
	}
	return f.settle()
}

// makeAll makes updates up to the first that is refused: how many were made?
func (f *Follower) makeAll(updates []api.Update) (int, api.Errno) {
	for i, u := range updates {
		if refusal := f.makeOne(u); refusal != api.OK {
			return i, refusal
		}
	}
	return len(updates), api.OK
}

func (f *Follower) makeOne(u api.Update) api.Errno {
	if u.Kind == api.Put {
		return f.keep.Insert(u.ID, u.Code)
	}
	return f.keep.Delete(u.ID)
}

// takePairs gathers a batch's pairs, and goes over to all that are gathered behind the last piece.
func (f *Follower) takePairs(b api.Batch) api.Errno {
	f.asOf = b.Seq
	for _, p := range b.Pairs {
		// The code may be a piece of something greater, which is not kept.
		f.gathered = append(f.gathered, api.Pair{ID: p.ID, Code: strings.Clone(p.Code)})
	}
	if !b.Last {
		return api.OK
	}
	all := f.gathered
	f.forget()
	switch refusal := f.keep.Reset(b.Seq, all); refusal {
	case api.OK:
		return f.settle()
	case api.ErrSeq:
		return api.ErrBatch // there are more pairs than updates
	default:
		return refusal
	}
}

// forget lets go of what is gathered.
func (f *Follower) forget() { f.gathered, f.asOf = nil, 0 }

// settle compacts, if so many words wait that updates might soon be refused. Where that can't be, it is no reason to refuse the batch, which is durable.
func (f *Follower) settle() api.Errno {
	if words, _ := f.keep.Waits(); words <= api.MaxDelta/2 {
		return api.OK
	}
	compactor := compact.New(f.keep)
	for {
		if idle, refusal := compactor.Step(); idle || refusal != api.OK {
			return unless(refusal != api.ErrDown, api.ErrDown)
		}
	}
}
