package inspect

import (
	"slices"

	"kindred/api"
	"kindred/disk"
	"kindred/journal"
	"kindred/manifest"
	"kindred/run"
)

// tidy takes away what an opening would take away: strays, and the journal's bad tail.
func (s *store) tidy() api.Errno {
	if e := deleteStrays(s.disk, s.manifest); e != api.OK {
		return e
	}
	if !s.journal.tail {
		return api.OK
	}
	return s.disk.Cut(journal.Name(s.manifest.Journal), s.journal.good)
}

// rewrite makes new files of the pairs that are saved, and goes over to them by one manifest; the old ones stand until then.
func (s *store) rewrite() api.Errno {
	if s.manifest.Next > api.MaxNumber-2 {
		return api.ErrWorn
	}
	if e := deleteStrays(s.disk, s.manifest); e != api.OK {
		return e
	}
	pairs := s.pairs.saved()
	next := s.renewed(len(pairs))
	if e := write(s.disk, next, puts(next.Seq, pairs)); e != api.OK {
		return e
	}
	return deleteStrays(s.disk, next)
}

// renewed is the manifest of a store with so many pairs, as of its last update. Each of them wants a number of its own, so there are as many at least.
func (s *store) renewed(count int) api.Manifest {
	next := s.manifest.Next
	m := api.Manifest{
		Opts:    s.manifest.Opts,
		Seq:     max(s.manifest.Seq+s.journal.updates, count),
		Next:    next + 2,
		Journal: next + 1,
	}
	if count > 0 {
		m.Runs = []api.RunInfo{{Number: next, Lo: m.Seq - count, Hi: m.Seq, Count: count}}
	}
	return m
}

// puts are the words of pairs that were put one behind the other, the last by the seq-th update, in the order that a run wants.
func puts(seq int, pairs []api.Pair) []api.Entry {
	list := make([]api.Entry, len(pairs))
	for i, p := range pairs {
		list[i] = api.Entry{Code: p.Code, ID: p.ID, Seq: seq - len(pairs) + 1 + i}
	}
	sortByCode(list)
	return list
}

// write makes the files that a new manifest names, and then the manifest. A refusal takes away what was made.
func write(d *disk.Disk, m api.Manifest, words []api.Entry) (refusal api.Errno) {
	var undo []func()
	defer func() { takeBack(undo, refusal) }()
	for _, info := range m.Runs {
		if e := run.Write(d, info.Number, m.Opts, info, words); e != api.OK {
			return e
		}
		undo = append(undo, func() { run.Delete(d, info.Number, m.Opts) })
	}
	if _, e := journal.Create(d, m.Journal, m.Seq, m.Width); e != api.OK {
		return e
	}
	undo = append(undo, func() { d.Delete(journal.Name(m.Journal)) })
	return manifest.Store(d, m)
}

// takeBack undoes what was made ahead of a refusal, from the last to the first. Without power it can't be undone, and is left to the next Repair. (The refusal is the answer, also if the power goes here.)
func takeBack(undo []func(), refusal api.Errno) {
	if refusal == api.OK || refusal == api.ErrDown {
		return
	}
	for _, do := range slices.Backward(undo) {
		do()
	}
}

// deleteStrays deletes every file of ours that a manifest does not name.
func deleteStrays(d *disk.Disk, m api.Manifest) api.Errno {
	var strays []string
	for name, f := range files(d, m) {
		if !f.named {
			strays = append(strays, name)
		}
	}
	slices.Sort(strays)
	for _, name := range strays {
		if e := d.Delete(name); e != api.OK {
			return e
		}
	}
	return api.OK
}
