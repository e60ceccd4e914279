package keep

import (
	"slices"

	"kindred/api"
	"kindred/journal"
	"kindred/manifest"
	"kindred/run"
)

// files are the manifest and what it names.
type files struct {
	seen    api.Manifest // as it was stored last, but with Next as it is now
	runs    []*run.Run
	journal *journal.Journal
}

// names are those of all files that the manifest names, its own among them.
func (f files) names() map[string]struct{} {
	named := map[string]struct{}{"manifest": {}, journal.Name(f.seen.Journal): {}}
	for _, info := range f.seen.Runs {
		for _, name := range run.Names(info.Number, f.seen.Opts) {
			named[name] = struct{}{}
		}
	}
	return named
}

// spans: a run goes in the place of the first n, as far as their updates' numbers say.
func (f files) spans(n int, info api.RunInfo) bool {
	return info.Lo == f.seen.Runs[0].Lo && info.Hi == f.seen.Runs[n-1].Hi
}

// write makes a run of words (none of none) and an empty journal behind it, and stores a manifest that names both, behind the runs that are kept. A refusal takes away what was made, as long as there is power for it.
func (k *Keep) write(kept []*run.Run, info api.RunInfo, words []api.Entry) (made files, refusal api.Errno) {
	m := k.seen
	info.Number, info.Count = m.Next, len(words)
	m.Seq, m.Journal, m.Next = info.Hi, m.Next+1, m.Next+2
	if m.Next > api.MaxNumber {
		return files{}, api.ErrWorn
	}
	var undo []func()
	defer func() { takeBack(undo, refusal) }()
	runs := slices.Clone(kept)
	if len(words) > 0 {
		if e := run.Write(k.disk, info.Number, m.Opts, info, words); e != api.OK {
			return files{}, e
		}
		undo = append(undo, func() { run.Delete(k.disk, info.Number, m.Opts) })
		r, e := run.Open(k.disk, m.Opts, info)
		if e != api.OK {
			return files{}, e
		}
		runs = append(runs, r)
	}
	j, e := journal.Create(k.disk, m.Journal, m.Seq, m.Width)
	if e != api.OK {
		return files{}, e
	}
	undo = append(undo, func() { k.disk.Delete(journal.Name(m.Journal)) })
	m.Runs = infos(runs)
	if e := manifest.Store(k.disk, m); e != api.OK {
		return files{}, e
	}
	return files{seen: m, runs: runs, journal: j}, api.OK
}

// takeBack undoes what was made ahead of a refusal, from the last to the first. Without power it can't be undone, and is left to the next Open. (The refusal is the answer, also if the power goes here.)
func takeBack(undo []func(), refusal api.Errno) {
	if refusal == api.OK || refusal == api.ErrDown {
		return
	}
	for _, do := range slices.Backward(undo) {
		do()
	}
}

// turn goes over to new files and their pairs, once what the new manifest does without is deleted: the old journal, and these runs.
func (k *Keep) turn(next files, pairs *living, gone []*run.Run) api.Errno {
	e := k.disk.Delete(journal.Name(k.seen.Journal))
	if e == api.OK {
		e = k.deleteRuns(gone)
	}
	// The new manifest counts already: whatever is refused here, the keep goes on with it, unless it is given up.
	if e != api.ErrDown {
		k.files, k.living, k.tail = next, pairs, nil
		k.words.Clear()
	}
	return e
}

// deleteRuns takes the files of runs away, oldest first.
func (k *Keep) deleteRuns(runs []*run.Run) api.Errno {
	for _, r := range runs {
		if e := run.Delete(k.disk, r.Info().Number, k.seen.Opts); e != api.OK {
			return e
		}
	}
	return api.OK
}

// infos are what a manifest says of runs.
func infos(runs []*run.Run) []api.RunInfo {
	list := make([]api.RunInfo, len(runs))
	for i, r := range runs {
		list[i] = r.Info()
	}
	return list
}
