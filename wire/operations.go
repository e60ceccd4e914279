package wire

import "kindred/api"

// handler is what is done with a field of each sort: it is written, read, looked at or cleared.
type handler struct {
	number func(*int)
	text   func(*string)
	hits   func(*[]api.Hit)
}

// operation hands the fields that it names to a handler, in the order in which they are written: so that all that is done with them has the one order.
type operation struct {
	op      int
	request func(*api.Request, handler)
	reply   func(*api.Reply, handler)
}

// operations are all that there are.
func operations() []operation {
	return []operation{
		{api.OpInsert, idAndCode, nothingTold},
		{api.OpDelete, id, nothingTold},
		{api.OpGet, id, text},
		{api.OpTop, codeAndK, hits},
		{api.OpRadius, codeAndR, hits},
		{api.OpCount, nothingAsked, number},
		{api.OpSync, nothingAsked, nothingTold},
		{api.OpStep, nothingAsked, number},
		{api.OpClose, nothingAsked, nothingTold},
	}
}

func nothingAsked(*api.Request, handler) {}

func id(q *api.Request, h handler) { h.number(&q.ID) }

func idAndCode(q *api.Request, h handler) {
	h.number(&q.ID)
	h.text(&q.Code)
}

func codeAndK(q *api.Request, h handler) {
	h.text(&q.Code)
	h.number(&q.K)
}

func codeAndR(q *api.Request, h handler) {
	h.text(&q.Code)
	h.number(&q.R)
}

func nothingTold(*api.Reply, handler) {}

func text(r *api.Reply, h handler) { h.text(&r.Text) }

func number(r *api.Reply, h handler) { h.number(&r.N) }

func hits(r *api.Reply, h handler) { h.hits(&r.Hits) }

// hit hands on a hit's fields, which are the same in every operation.
func hit(at *api.Hit, h handler) {
	h.number(&at.Dist)
	h.number(&at.ID)
	h.text(&at.Code)
}

// follows tells whether a hit is in order behind the one ahead of it.
func follows(ahead, at api.Hit) bool {
	return at.Dist > ahead.Dist || at.Dist == ahead.Dist && at.ID > ahead.ID
}

// find is the operation of a number, if there is one.
func find(op int) (operation, bool) {
	for _, o := range operations() {
		if o.op == op {
			return o, true
		}
	}
	return operation{}, false
}

// named hands on what is named of a reply: nothing, where the engine refused.
func (o operation) named(r *api.Reply, h handler) {
	if r.Code == api.OK {
		o.reply(r, h)
	}
}

// straysIn tells whether a request has something that the operation does not name: what it names is cleared, and nothing must be left.
func (o operation) straysIn(q api.Request) bool {
	o.request(&q, clearing())
	return q != api.Request{Op: o.op}
}

// straysOf tells the same of a reply.
func (o operation) straysOf(r api.Reply) bool {
	o.named(&r, clearing())
	return r.N != 0 || r.Text != "" || len(r.Hits) > 0
}

// clearing is the handler that takes every field away.
func clearing() handler {
	return handler{
		number: func(n *int) { *n = 0 },
		text:   func(t *string) { *t = "" },
		hits:   func(list *[]api.Hit) { *list = nil },
	}
}
