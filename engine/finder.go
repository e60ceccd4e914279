package engine

import (
	"kindred/api"
	"kindred/keep"
	"kindred/probe"
)

// finder is a mode of search. It is told of every pair that comes or goes.
type finder interface {
	add(id int, code string)
	drop(id int)
	topK(q string, k int) ([]api.Hit, api.Stats, api.Errno)
	radius(q string, r int) ([]api.Hit, api.Stats, api.Errno)
	few(q string, k, shells int) ([]api.Hit, api.Stats, api.Errno)
}

// finderOver is the finder of a keep's mode, for the pairs that it has.
func finderOver(k *keep.Keep) finder {
	o := k.Seen().Opts
	if o.Mode == api.Chunked {
		return chunked{keep: k, opts: o}
	}
	t := newTreed(o.Width)
	for _, p := range k.Pairs(0, api.MaxPairs) {
		t.add(p.ID, p.Code)
	}
	return t
}

// chunked finds by the chunks' values, whose tables the keep has: so there is nothing to be told of pairs.
type chunked struct {
	keep *keep.Keep
	opts api.Opts
}

func (c chunked) add(id int, code string) {}

func (c chunked) drop(id int) {}

func (c chunked) topK(q string, k int) ([]api.Hit, api.Stats, api.Errno) {
	return probe.TopK(c.source(), q, k)
}

func (c chunked) radius(q string, r int) ([]api.Hit, api.Stats, api.Errno) {
	return probe.Radius(c.source(), q, r)
}

func (c chunked) few(q string, k, shells int) ([]api.Hit, api.Stats, api.Errno) {
	return probe.Few(c.source(), q, k, shells)
}

// source is the keep's pairs as they are now.
func (c chunked) source() probe.Source {
	return probe.Source{Width: c.opts.Width, Chunks: c.opts.Chunks, Codes: c.keep.Codes(), Values: c.keep.Values, At: c.keep.At}
}
