package wire

import "kindred/api"

// checker is what was found wrong with the fields that are to be written. A number's fault goes ahead of a text's, in whatever order the fields stand.
type checker struct {
	low  bool
	big  bool
	list api.Errno
}

func (c *checker) handler() handler { return handler{c.number, c.text, c.hits} }

func (c *checker) number(n *int) { c.low = c.low || *n < 0 }

func (c *checker) text(t *string) { c.big = c.big || len(*t) > api.MaxPayload }

func (c *checker) hits(list *[]api.Hit) { c.list = checkHits(*list) }

func (c *checker) refusal() api.Errno {
	switch {
	case c.low:
		return api.ErrRange
	case c.big:
		return api.ErrBig
	}
	return c.list
}

// checkHits is the first fault of a list of hits.
func checkHits(list []api.Hit) api.Errno {
	if len(list) > api.MaxHits {
		return api.ErrMany
	}
	var c checker
	h := c.handler()
	for i := range list {
		hit(&list[i], h)
		if e := c.refusal(); e != api.OK {
			return e
		}
		if i > 0 && !follows(list[i-1], list[i]) {
			return api.ErrOrder
		}
	}
	return api.OK
}
