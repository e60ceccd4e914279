package wire_test

import (
	"encoding/binary"
	"math"

	"kindred/api"
)

// This is the chapter's words a second time, by other means: the names of fields in a text for each operation, the library's numbers, and a panic for a refusal.

// askedFor and answered say what each operation names, in its order: i ID, c Code, k K, r R; t Text, h Hits, n N.
var (
	askedFor = []string{1: "ic", 2: "i", 3: "i", 4: "ck", 5: "cr", 6: "", 7: "", 8: "", 9: ""}
	answered = []string{1: "", 2: "", 3: "t", 4: "h", 5: "h", 6: "n", 7: "", 8: "n", 9: ""}
)

type refused struct{ why api.Errno }

func refuseIf(bad bool, why api.Errno) {
	if bad {
		panic(refused{why})
	}
}

// caught is the refusal of what is done.
func caught(do func()) (why api.Errno) {
	defer func() {
		if x := recover(); x != nil {
			why = x.(refused).why
		}
	}()
	do()
	return api.OK
}

func has(names string, name byte) bool {
	for i := range len(names) {
		if names[i] == name {
			return true
		}
	}
	return false
}

func putNumber(b []byte, n int) []byte { return binary.AppendUvarint(b, uint64(n)) }

func putText(b []byte, t string) []byte { return append(putNumber(b, len(t)), t...) }

// askModel is 18.1 and 18.2.
func askModel(q api.Request) (string, api.Errno) {
	var b []byte
	why := caught(func() {
		refuseIf(q.Op < 1 || q.Op > 9, api.ErrKind)
		names := askedFor[q.Op]
		numbers := []struct {
			name byte
			n    int
		}{{'i', q.ID}, {'k', q.K}, {'r', q.R}}
		for _, x := range numbers {
			refuseIf(!has(names, x.name) && x.n != 0, api.ErrForm)
		}
		refuseIf(!has(names, 'c') && q.Code != "", api.ErrForm)
		for _, x := range numbers {
			refuseIf(x.n < 0, api.ErrRange)
		}
		refuseIf(len(q.Code) > 65536, api.ErrBig)
		b = append(b, 0x51, byte(q.Op))
		for _, name := range names {
			switch name {
			case 'i':
				b = putNumber(b, q.ID)
			case 'k':
				b = putNumber(b, q.K)
			case 'r':
				b = putNumber(b, q.R)
			case 'c':
				b = putText(b, q.Code)
			}
		}
	})
	if why != api.OK {
		return "", why
	}
	return string(b), api.OK
}

// tellModel is 18.3 and 18.4.
func tellModel(op int, r api.Reply) (string, api.Errno) {
	var b []byte
	why := caught(func() {
		refuseIf(op < 1 || op > 9, api.ErrKind)
		refuseIf(r.Code < 0 || r.Code > 999, api.ErrRange)
		names := answered[op]
		if r.Code != api.OK {
			names = ""
		}
		refuseIf(!has(names, 'n') && r.N != 0, api.ErrForm)
		refuseIf(!has(names, 't') && r.Text != "", api.ErrForm)
		refuseIf(!has(names, 'h') && len(r.Hits) != 0, api.ErrForm)
		refuseIf(r.N < 0, api.ErrRange)
		refuseIf(len(r.Text) > 65536, api.ErrBig)
		refuseIf(len(r.Hits) > 65536, api.ErrMany)
		for i, h := range r.Hits {
			refuseIf(h.Dist < 0 || h.ID < 0, api.ErrRange)
			refuseIf(len(h.Code) > 65536, api.ErrBig)
			refuseIf(i > 0 && !ordered(r.Hits[i-1], h), api.ErrOrder)
		}
		b = putNumber(append(b, 0x52, byte(op)), int(r.Code))
		switch names {
		case "n":
			b = putNumber(b, r.N)
		case "t":
			b = putText(b, r.Text)
		case "h":
			b = putNumber(b, len(r.Hits))
			for _, h := range r.Hits {
				b = putText(putNumber(putNumber(b, h.Dist), h.ID), h.Code)
			}
		}
	})
	if why != api.OK {
		return "", why
	}
	return string(b), api.OK
}

func ordered(a, b api.Hit) bool {
	if a.Dist != b.Dist {
		return a.Dist < b.Dist
	}
	return a.ID < b.ID
}

// taking takes what stands at the left of a text.
type taking struct{ rest string }

func (t *taking) one() byte {
	refuseIf(t.rest == "", api.ErrShort)
	c := t.rest[0]
	t.rest = t.rest[1:]
	return c
}

// number is 3.4 word by word, and the bound.
func (t *taking) number(most uint64, above api.Errno) int {
	var v uint64
	for n := 1; ; n++ {
		c := t.one()
		refuseIf(n == 10 && c > 1, api.ErrOver)
		v += uint64(c%128) << (7 * (n - 1))
		if c < 128 {
			refuseIf(c == 0 && n > 1, api.ErrForm)
			break
		}
	}
	refuseIf(v > math.MaxInt, api.ErrRange)
	refuseIf(v > most, above)
	return int(v)
}

func (t *taking) text() string {
	n := t.number(65536, api.ErrBig)
	refuseIf(n > len(t.rest), api.ErrShort)
	s := t.rest[:n]
	t.rest = t.rest[n:]
	return s
}

func (t *taking) begin(kind byte) int {
	refuseIf(t.one() != kind, api.ErrKind)
	op := int(t.one())
	refuseIf(op < 1 || op > 9, api.ErrKind)
	return op
}

// askedModel is 18.5 of requests.
func askedModel(b string) (api.Request, api.Errno) {
	var q api.Request
	why := caught(func() {
		t := &taking{b}
		q.Op = t.begin(0x51)
		for _, name := range askedFor[q.Op] {
			switch name {
			case 'i':
				q.ID = t.number(math.MaxInt, 0)
			case 'k':
				q.K = t.number(math.MaxInt, 0)
			case 'r':
				q.R = t.number(math.MaxInt, 0)
			case 'c':
				q.Code = t.text()
			}
		}
		refuseIf(t.rest != "", api.ErrLong)
	})
	if why != api.OK {
		return api.Request{}, why
	}
	return q, api.OK
}

// toldModel is 18.5 of replies.
func toldModel(b string) (int, api.Reply, api.Errno) {
	var r api.Reply
	op := 0
	why := caught(func() {
		t := &taking{b}
		op = t.begin(0x52)
		r.Code = api.Errno(t.number(999, api.ErrRange))
		names := answered[op]
		if r.Code != api.OK {
			names = ""
		}
		switch names {
		case "n":
			r.N = t.number(math.MaxInt, 0)
		case "t":
			r.Text = t.text()
		case "h":
			n := t.number(65536, api.ErrMany)
			for i := range n {
				h := api.Hit{Dist: t.number(math.MaxInt, 0), ID: t.number(math.MaxInt, 0), Code: t.text()}
				refuseIf(i > 0 && !ordered(r.Hits[i-1], h), api.ErrOrder)
				r.Hits = append(r.Hits, h)
			}
		}
		refuseIf(t.rest != "", api.ErrLong)
	})
	if why != api.OK {
		return 0, api.Reply{}, why
	}
	return op, r, api.OK
}
