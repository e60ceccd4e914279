package inspect

import (
	"cmp"
	"slices"

	"kindred/api"
	"kindred/disk"
	"kindred/journal"
	"kindred/manifest"
	"kindred/run"
)

// store is what stands on a disk: what its manifest says, what its files say, and what is wrong with them.
type store struct {
	disk     *disk.Disk
	manifest api.Manifest
	sound    map[string]struct{} // the runs' files that are whole and have the words of the first whole one
	allSound bool                // there is no other one
	goes     bool                // the runs' words go together
	journal  looked
	pairs    living // by the runs' words, and then the journal's updates
	damages  map[string]api.Errno
}

// looked is what a look at the journal tells.
type looked struct {
	refusal api.Errno
	updates int  // how many it has
	goes    bool // they can be made behind the runs' words
	good    int  // where its bad tail begins
	tail    bool // there is one
}

// look reads all files that the manifest names, and asks each of ours for what is wrong with it; or it is refused what manifest.Load is.
func look(d *disk.Disk) (*store, api.Errno) {
	m, e := manifest.Load(d)
	if e != api.OK {
		return nil, e
	}
	s := &store{disk: d, manifest: m, sound: map[string]struct{}{}, damages: map[string]api.Errno{}}
	s.readRuns()
	s.readJournal()
	for name, f := range files(d, m) {
		wrong := s.question(name, f)
		if e := wrong(); e != api.OK {
			s.damages[name] = e
		}
	}
	return s, api.OK
}

// readRuns holds the files of each run against one another, and makes of the words of the first whole ones the pairs that live.
func (s *store) readRuns() {
	said := newWords()
	s.allSound = true
	for _, info := range s.manifest.Runs {
		var first []api.Entry
		for _, t := range tables(s.manifest.Opts, info) {
			list, whole := t.read(s.disk)
			if first == nil {
				first = list
			}
			if whole && slices.Equal(list, first) {
				s.sound[t.name] = struct{}{}
			} else {
				s.allSound = false
			}
		}
		said.add(first)
	}
	s.pairs, s.goes = said.living()
}

// readJournal makes the journal's updates behind what the runs say, whether they go or not.
func (s *store) readJournal() {
	updates, good, e := journal.Look(s.disk, s.manifest.Journal, s.manifest.Seq, s.manifest.Width)
	size, _ := s.disk.Size(journal.Name(s.manifest.Journal))
	s.journal = looked{refusal: e, updates: len(updates), goes: s.pairs.play(updates), good: good, tail: good < size}
}

// file is whether the manifest names one of ours, and whether it is there.
type file struct{ named, there bool }

// files are those of ours that are there, or that a manifest names.
func files(d *disk.Disk, m api.Manifest) map[string]file {
	all := map[string]file{own: {named: true}, journal.Name(m.Journal): {named: true}}
	for _, info := range m.Runs {
		for _, name := range run.Names(info.Number, m.Opts) {
			all[name] = file{named: true}
		}
	}
	for _, name := range d.Names() {
		if kind, _, _ := manifest.Kind(name); kind != api.NameOther {
			all[name] = file{named: all[name].named, there: true}
		}
	}
	return all
}

// question is what tells what is wrong with a file of ours.
func (s *store) question(name string, f file) func() api.Errno {
	switch kind, _, _ := manifest.Kind(name); {
	case !f.named:
		return func() api.Errno { return api.ErrExists }
	case !f.there:
		return func() api.Errno { return api.ErrNone }
	case kind == api.NameRun:
		return func() api.Errno {
			_, sound := s.sound[name]
			return unless(sound, api.ErrCorrupt)
		}
	case kind == api.NameJournal:
		return func() api.Errno {
			return cmp.Or(
				unless(s.journal.refusal == api.OK, api.ErrCorrupt),
				unless(!s.allSound || !s.goes || s.journal.goes, api.ErrApart), // where words are missing, updates need not go
				unless(!s.journal.tail, api.ErrLong))
		}
	}
	return func() api.Errno { return unless(!s.allSound || s.goes, api.ErrApart) }
}

// opens: what is wrong is set right by every opening of the store.
func (s *store) opens() bool {
	for _, e := range s.damages {
		if e != api.ErrLong && e != api.ErrExists {
			return false
		}
	}
	return true
}

// told are the damages, by their names.
func (s *store) told() []api.Damage {
	var list []api.Damage
	for name, e := range s.damages {
		list = append(list, api.Damage{Name: name, Code: e})
	}
	slices.SortFunc(list, func(a, b api.Damage) int { return cmp.Compare(a.Name, b.Name) })
	return list
}

func unless(holds bool, refusal api.Errno) api.Errno {
	if holds {
		return api.OK
	}
	return refusal
}
