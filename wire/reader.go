package wire

import (
	"math"
	"strings"

	"kindred/api"
	"kindred/seal"
)

// reader is how far a message was read, and the first refusal: behind it nothing is read any more.
type reader struct {
	from    string
	at      int
	refusal api.Errno
}

func (r *reader) handler() handler { return handler{r.number, r.text, r.hits} }

func (r *reader) refuse(e api.Errno) {
	if r.refusal == api.OK {
		r.refusal = e
	}
}

// operation reads the two bytes that a message begins with: the operation, unless there is a refusal.
func (r *reader) operation(kind byte) (operation, bool) {
	if first := r.bytes(1); first != "" && first[0] != kind {
		r.refuse(api.ErrKind)
	}
	second := r.bytes(1)
	if second == "" {
		return operation{}, false
	}
	o, ok := find(int(second[0]))
	if !ok {
		r.refuse(api.ErrKind)
	}
	return o, ok
}

// bytes are the next so many; none, if there are fewer.
func (r *reader) bytes(size int) string {
	if size > len(r.from)-r.at {
		r.refuse(api.ErrShort)
	}
	if r.refusal != api.OK {
		return ""
	}
	r.at += size
	return r.from[r.at-size : r.at]
}

func (r *reader) number(n *int) {
	if r.refusal != api.OK {
		return
	}
	v, at, e := seal.Var(r.from, r.at)
	if e != api.OK {
		r.refuse(e)
		return
	}
	if v > math.MaxInt {
		r.refuse(api.ErrRange)
		return
	}
	*n, r.at = int(v), at
}

// upto reads a number that has a bound of its own.
func (r *reader) upto(most int, above api.Errno) int {
	n := 0
	r.number(&n)
	if n > most {
		r.refuse(above)
		return 0
	}
	return n
}

func (r *reader) text(t *string) {
	size := r.upto(api.MaxPayload, api.ErrBig)
	// Whoever keeps a text shall not keep all that it was read from.
	*t = strings.Clone(r.bytes(size))
}

// hits grows its list as hits are there: how many there are said to be may be a lie.
func (r *reader) hits(list *[]api.Hit) {
	h := r.handler()
	for i := range r.upto(api.MaxHits, api.ErrMany) {
		var at api.Hit
		hit(&at, h)
		if r.refusal != api.OK {
			return
		}
		if i > 0 && !follows((*list)[i-1], at) {
			r.refuse(api.ErrOrder)
			return
		}
		*list = append(*list, at)
	}
}

// end is what is wrong with the message, now that all of it should be read.
func (r *reader) end() api.Errno {
	if r.at < len(r.from) {
		r.refuse(api.ErrLong)
	}
	return r.refusal
}
