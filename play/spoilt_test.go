package play_test

import (
	"fmt"
	"slices"
	"testing"

	"kindred/api"
	"kindred/play"
)

// spoilt is a script that makes a store and opens it; then so many bytes are changed. Behind them stand the steps of looks, from the number told on.
func spoilt(seed int, o api.Opts, bytes int) ([]api.Step, int) {
	w := &walker{maker: makerOf(seed, o)}
	w.steps = append(w.steps, api.Step{Kind: api.StepCreate, Opts: o})
	for range 2 + w.Below(40) {
		switch w.Below(8) {
		case 0, 1:
			w.add(api.StepDelete, numbers(w.Below(20)))
		case 2:
			w.add(api.StepCompact, nil)
		default:
			w.add(api.StepInsert, numbers(w.Below(20)), pick(w.maker, w.maker.codes...))
		}
	}
	w.add(api.StepClose, nil)
	w.look()
	w.add(api.StepClose, nil)
	for range bytes {
		w.add(api.StepSpoil, numbers(w.Below(aboutOne(w.maker, 3, 60, 300)), 1+w.Below(255)), w.ours())
	}
	at := len(w.steps)
	for _, kind := range looks {
		w.add(kind, nil)
	}
	w.add(api.StepRadius, numbers(o.Width), w.zero())
	return w.steps, at
}

// ours is a name that a file of a small store may have.
func (w *walker) ours() string {
	switch w.Below(6) {
	case 0:
		return "manifest"
	case 1, 2:
		return fmt.Sprint("j", 1+2*w.Below(8))
	}
	return fmt.Sprint("r", 2+2*w.Below(7), ".", w.Below(max(w.opts.Chunks, 1)))
}

// looks are what is asked of a spoilt store; a search for all pairs comes behind them.
var looks = []int{api.StepInspect, api.StepImage, api.StepOpen, api.StepImage, api.StepRepair, api.StepImage, api.StepInspect, api.StepRepair, api.StepImage, api.StepOpen, api.StepCount}

// checkSpoilt holds what is answered to the looks against W5 and W14; it tells what kind of store it was.
func checkSpoilt(t *testing.T, seed int, o api.Opts, bytes int) string {
	t.Helper()
	steps, at := spoilt(seed, o, bytes)
	answers := play.Run(1<<20, steps)
	p := &past{t: t, opts: o, number: -1, seen: map[int]int{}}
	var names []string
	for i, s := range steps[:at] {
		p.where = fmt.Sprintf("seed %d, %+v, step %d", seed, o, i)
		if s.Kind != api.StepSpoil {
			p.see(s, answers[i])
		} else if answers[i].Code == api.OK {
			names = append(names, s.S[0])
		}
	}
	fail := func(promise string, what ...any) {
		t.Helper()
		t.Fatalf("%s: seed %d, %+v, bytes of %v changed: %s%+v", promise, seed, o, names, fmt.Sprintln(what...), answers[at:])
	}
	told, image, opened, behind, repaired := answers[at], answers[at+1], answers[at+2], answers[at+3], answers[at+4]
	if len(names) == 0 {
		return "whole"
	}
	if len(names) == 1 && !slices.Equal(told.S, names) || slices.ContainsFunc(told.S, func(name string) bool { return !slices.Contains(names, name) }) {
		fail("W14, 23.8", "the damages are", told)
	}
	light := !slices.ContainsFunc(told.N, func(e int) bool { return e != int(api.ErrLong) && e != int(api.ErrExists) })
	if opened.Code != api.OK && opened.Code != api.ErrCorrupt || (opened.Code == api.OK) != light || opened.Code == api.ErrCorrupt && !same([]api.Answer{image}, []api.Answer{behind}) {
		fail("W5, 23.2", "it opens as", opened)
	}
	if slices.Contains(told.S, "manifest") && told.N[slices.Index(told.S, "manifest")] == int(api.ErrCorrupt) {
		if repaired.Code != api.ErrCorrupt || !same(answers[at+5:at+6], []api.Answer{image}) {
			fail("23.3", "it is repaired as", repaired)
		}
		return "manifest"
	}
	// A store that opened was mended by that already.
	if repaired.Code != api.OK || light && len(repaired.N) > 0 || !light && !same([]api.Answer{repaired}, []api.Answer{told}) {
		fail("W14", "it is repaired as", repaired)
	}
	if !same(answers[at+6:at+9], []api.Answer{{}, {}, answers[at+5]}) || answers[at+9].Code != api.OK {
		fail("W14, 23.5", "there is a damage behind a repair")
	}
	if len(names) > 1 {
		return "many"
	}
	kind := "run"
	if names[0][0] == 'j' {
		kind = "journal"
		seq := answers[at+10].N[2]
		if seq > len(p.updates) {
			fail("W14", "updates that never were")
		}
		p.updates = p.updates[:seq]
	} else if o.Chunks == 0 {
		// Its one table's file is not whole: there is no other.
		return "tree"
	}
	p.want("W14", steps[len(steps)-1], answers[len(answers)-1], p.search(steps[len(steps)-1]))
	return kind
}

// TestSpoiltStores: W5 and W14: bytes of a store are changed; what is looked at, opened and repaired then is what the files say still.
func TestSpoiltStores(t *testing.T) {
	kinds := map[string]int{}
	for seed := range 3000 {
		o := modes()[seed%3]
		kinds[checkSpoilt(t, seed, o, []int{1, 2, 2, 5}[seed%4])]++
	}
	for _, kind := range []string{"whole", "manifest", "run", "journal", "tree", "many"} {
		if kinds[kind] < 30 {
			t.Errorf("%s: %d stores", kind, kinds[kind])
		}
	}
}
