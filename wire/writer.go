package wire

import (
	"strings"

	"kindred/api"
	"kindred/seal"
)

// writer is a message as far as it is written; what it is handed was looked at by a checker.
type writer struct {
	out strings.Builder
}

// begin begins a message of an operation.
func begin(kind byte, o operation) *writer {
	w := &writer{}
	w.out.WriteByte(kind)
	w.out.WriteByte(byte(o.op))
	return w
}

func (w *writer) handler() handler { return handler{w.number, w.text, w.hits} }

func (w *writer) number(n *int) { w.out.WriteString(seal.PutVar(uint64(*n))) }

func (w *writer) text(t *string) {
	size := len(*t)
	w.number(&size)
	w.out.WriteString(*t)
}

func (w *writer) hits(list *[]api.Hit) {
	count := len(*list)
	w.number(&count)
	h := w.handler()
	for i := range *list {
		hit(&(*list)[i], h)
	}
}
