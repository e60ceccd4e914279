package keep

import (
	"cmp"
	"slices"
	"strings"

	"kindred/api"
	"kindred/bits"
)

// update makes an update, behind the last one: in the journal, and then here.
func (k *Keep) update(u api.Update) api.Errno {
	if k.isDown() {
		return api.ErrDown
	}
	code, e := k.spokenOf(u)
	if e != api.OK {
		return e
	}
	if k.Seq() >= api.MaxSeq {
		return api.ErrWorn
	}
	// The code may be a piece of something greater, which is not kept.
	u.Seq, u.Code = k.Seq()+1, strings.Clone(u.Code)
	if e := k.journal.Append(u); e != api.OK {
		return e
	}
	k.take(u, code)
	return api.OK
}

// spokenOf is the code of the pair that an update puts or takes away, or why it can't.
func (k *Keep) spokenOf(u api.Update) (string, api.Errno) {
	if !isID(u.ID) {
		return "", api.ErrID
	}
	code, lives := k.living.code(u.ID)
	switch {
	case u.Kind == api.Dead && lives:
	case u.Kind == api.Dead:
		return "", api.ErrGone
	case bits.Check(k.seen.Width, u.Code) != api.OK:
		return "", api.ErrCode
	case lives:
		return "", api.ErrTwice
	case k.living.count() >= api.MaxPairs:
		return "", api.ErrMany
	default:
		code = u.Code
	}
	if _, waits := k.words.Word(u.ID, code); !waits && k.words.Len() >= api.MaxDelta {
		return "", api.ErrBusy
	}
	return code, api.OK
}

// take is what an update that stands in the journal does to what the keep knows.
func (k *Keep) take(u api.Update, code string) {
	if u.Kind == api.Put {
		k.living.add(u.ID, code)
		k.words.Put(u.Seq, u.ID, code)
	} else {
		k.living.drop(u.ID)
		k.words.Kill(u.Seq, u.ID, code)
	}
	k.tail = append(k.tail, u)
}

// checkReset refuses pairs that can't be all, and a number that can't be that of their update.
func (k *Keep) checkReset(seq int, pairs []api.Pair) api.Errno {
	if len(pairs) > api.MaxPairs {
		return api.ErrMany
	}
	for i, p := range pairs {
		switch {
		case !isID(p.ID):
			return api.ErrID
		case bits.Check(k.seen.Width, p.Code) != api.OK:
			return api.ErrCode
		case i > 0 && p.ID <= pairs[i-1].ID:
			return api.ErrOrder
		}
	}
	if seq <= k.Seq() || seq > api.MaxSeq || seq < len(pairs) {
		return api.ErrSeq
	}
	return api.OK
}

// puts are the words of pairs that were put one behind the other, the last by the seq-th update, in the order that a run wants.
func puts(seq int, pairs []api.Pair) []api.Entry {
	list := make([]api.Entry, len(pairs))
	for i, p := range pairs {
		list[i] = api.Entry{Code: p.Code, ID: p.ID, Seq: seq - len(pairs) + 1 + i}
	}
	slices.SortFunc(list, func(a, b api.Entry) int {
		return cmp.Or(strings.Compare(a.Code, b.Code), cmp.Compare(a.ID, b.ID))
	})
	return list
}

func isID(id int) bool { return id >= 0 && id <= api.MaxID }
