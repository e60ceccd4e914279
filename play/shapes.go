package play

import (
	"strings"

	"kindred/api"
)

// shape is how steps of a kind are written: a word, behind it so many numbers, behind these so many texts; if it is often, both any number of times.
type shape struct {
	kind    int
	word    string
	numbers int
	texts   int
	often   bool
}

// shapes are those of all kinds.
func shapes() []shape {
	return []shape{
		{api.StepCreate, "create", 3, 0, false},
		{api.StepOpen, "open", 0, 0, false},
		{api.StepInsert, "insert", 1, 1, false},
		{api.StepDelete, "delete", 1, 0, false},
		{api.StepGet, "get", 1, 0, false},
		{api.StepTop, "top", 1, 1, false},
		{api.StepRadius, "radius", 1, 1, false},
		{api.StepCount, "count", 0, 0, false},
		{api.StepSync, "sync", 0, 0, false},
		{api.StepCompact, "compact", 0, 0, false},
		{api.StepClose, "close", 0, 0, false},
		{api.StepArm, "arm", 2, 0, false},
		{api.StepCrash, "crash", 2, 1, true},
		{api.StepImage, "image", 0, 0, false},
		{api.StepRoom, "room", 1, 0, false},
		{api.StepInspect, "inspect", 0, 0, false},
		{api.StepRepair, "repair", 0, 0, false},
		{api.StepGroups, "groups", 2, 0, false},
		{api.StepJoin, "join", 1, 0, false},
		{api.StepSend, "send", 1, 0, false},
		{api.StepFollow, "follow", 1, 1, false},
		{api.StepAsk, "ask", 0, 1, false},
		{api.StepSpoil, "spoil", 2, 1, false},
	}
}

// shapesByWord are the shapes, to be asked for by their words.
func shapesByWord() map[string]shape {
	by := map[string]shape{}
	for _, f := range shapes() {
		by[f.word] = f
	}
	return by
}

// shapesByKind are the shapes, to be asked for by their kinds.
func shapesByKind() map[int]shape {
	by := map[int]shape{}
	for _, f := range shapes() {
		by[f.kind] = f
	}
	return by
}

// readLine makes a step of a line.
func readLine(line string, shapes map[string]shape) (api.Step, api.Errno) {
	var texts []string
	for word := range strings.SplitSeq(line, " ") {
		text, ok := textOf(word)
		if !ok {
			return api.Step{}, api.ErrForm
		}
		texts = append(texts, text)
	}
	f, there := shapes[texts[0]]
	if !there {
		return api.Step{}, api.ErrStep
	}
	return f.read(texts[1:])
}

// read makes a step of what follows the shape's word.
func (f shape) read(texts []string) (api.Step, api.Errno) {
	each, times := f.numbers+f.texts, 1
	if f.often {
		times = len(texts) / each
	}
	if len(texts) != times*each {
		return api.Step{}, api.ErrStep
	}
	s := api.Step{Kind: f.kind}
	for i, text := range texts {
		if i%each >= f.numbers {
			s.S = append(s.S, text)
			continue
		}
		n, ok := numberOf(text)
		if !ok {
			return api.Step{}, api.ErrOver
		}
		s.N = append(s.N, n)
	}
	if f.kind == api.StepCreate {
		s.Opts, s.N = api.Opts{Width: s.N[0], Chunks: s.N[1], Mode: s.N[2]}, nil
	}
	return s, api.OK
}

// write makes a line of a step.
func (f shape) write(to *strings.Builder, s api.Step) {
	numbers, times := s.N, 1
	if f.kind == api.StepCreate {
		numbers = []int{s.Opts.Width, s.Opts.Chunks, s.Opts.Mode}
	}
	if f.often {
		times = len(s.S)
	}
	to.WriteString(f.word)
	for i := range times {
		writeWords(to, piece(numbers, i, f.numbers), piece(s.S, i, f.texts))
	}
	to.WriteByte('\n')
}

// piece is the i-th piece of so many of a list; what the list does not have is zero.
func piece[T any](list []T, i, size int) []T {
	part := make([]T, size)
	for k := range part {
		part[k] = at(list, i*size+k)
	}
	return part
}

// at is what stands at a place of a list; zero, if nothing does.
func at[T any](list []T, place int) T {
	if place >= len(list) {
		var none T
		return none
	}
	return list[place]
}
