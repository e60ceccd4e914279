package front

import (
	"slices"
	"strings"

	"kindred/api"
	"kindred/engine"
)

// mostWords is how many words a request has at most.
const mostWords = 3

// request is what follows a first word, and what is asked for.
type request struct {
	follows string
	ask     func(asked) string
}

// asked is what a line says behind its first word, and whom it asks.
type asked struct {
	engine *engine.Engine
	id     int
	code   string
	k      int
	r      int
}

// requests are all that there are, by their first words.
func requests() map[string]request {
	return map[string]request{
		"insert": {"ID CODE", asked.insert},
		"delete": {"ID", asked.delete},
		"get":    {"ID", asked.get},
		"top":    {"CODE K", asked.top},
		"radius": {"CODE R", asked.radius},
		"near":   {"ID K", asked.near},
		"count":  {"", asked.count},
		"seq":    {"", asked.seq},
		"sync":   {"", asked.sync},
		"step":   {"", asked.step},
		"close":  {"", asked.close},
	}
}

// read is what the words behind the first one say, if they are just what follows it.
func (r request) read(words []string) (asked, bool) {
	names := strings.Fields(r.follows)
	if len(words) != len(names) {
		return asked{}, false
	}
	var a asked
	for i, name := range names {
		if !a.take(name, words[i]) {
			return asked{}, false
		}
	}
	return a, true
}

// take reads a word in the place of this name.
func (a *asked) take(name, word string) bool {
	var ok bool
	switch name {
	case "ID":
		a.id, ok = numberIn(word)
	case "CODE":
		a.code, ok = codeIn(word)
	case "K":
		a.k, ok = numberIn(word)
	case "R":
		a.r, ok = numberIn(word)
	}
	return ok
}

func (a asked) insert() string { return answer(a.engine.Insert(a.id, a.code)) }

func (a asked) delete() string { return answer(a.engine.Delete(a.id)) }

func (a asked) get() string {
	found, refusal := a.engine.Get(a.id)
	return answer(refusal, code(found))
}

func (a asked) top() string {
	hits, _, refusal := a.engine.TopK(a.code, a.k)
	return answerHits(refusal, hits)
}

func (a asked) radius() string {
	hits, _, refusal := a.engine.Radius(a.code, a.r)
	return answerHits(refusal, hits)
}

// near asks for one pair more than is told, since the pair itself may be among them.
func (a asked) near() string {
	found, refusal := a.engine.Get(a.id)
	if refusal != api.OK {
		return answer(refusal)
	}
	if a.k < 0 || a.k >= api.MaxK {
		return answer(api.ErrK)
	}
	hits, _, refusal := a.engine.TopK(found, a.k+1)
	others := slices.DeleteFunc(hits, func(h api.Hit) bool { return h.ID == a.id })
	return answerHits(refusal, others[:min(a.k, len(others))])
}

func (a asked) count() string {
	return answer(api.OK, number(a.engine.Count()), number(a.engine.Codes()))
}

func (a asked) seq() string {
	return answer(api.OK, number(a.engine.Seq()), number(a.engine.Synced()))
}

func (a asked) sync() string { return answer(a.engine.Sync()) }

func (a asked) step() string {
	idle, refusal := a.engine.CompactStep()
	if idle {
		return answer(refusal, number(1))
	}
	return answer(refusal, number(0))
}

func (a asked) close() string { return answer(a.engine.Close()) }
