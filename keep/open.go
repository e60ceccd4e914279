package keep

import (
	"slices"

	"kindred/api"
	"kindred/delta"
	"kindred/disk"
	"kindred/journal"
	"kindred/manifest"
	"kindred/run"
)

// over is a keep that knows a manifest, and nothing yet of the files that it names.
func over(d *disk.Disk, m api.Manifest) *Keep {
	return &Keep{disk: d, age: d.Age(), files: files{seen: m}, living: newLiving(m.Opts), words: delta.New(m.Width, m.Chunks)}
}

// self is the keep; for what neither Create nor Open has made it is one without a disk, and so without power.
func (k *Keep) self() *Keep {
	if k == nil || k.living == nil {
		return &Keep{living: &living{}}
	}
	return k
}

// isDown: the power is off, or the keep is given up. That an earlier call has answered ErrDown need not be kept: the power comes back by a crash alone, and that changes the age.
func (k *Keep) isDown() bool {
	return k == nil || k.disk.Down() || k.disk.Age() != k.age
}

// isTaken: there is a manifest, whatever stands in it.
func isTaken(d *disk.Disk) bool {
	return slices.ContainsFunc(d.Names(), func(name string) bool { return kindOf(name) == api.NameManifest })
}

// deleteOurs deletes every file of a store whose name is not among these.
func deleteOurs(d *disk.Disk, named map[string]struct{}) api.Errno {
	for _, name := range d.Names() {
		if _, stays := named[name]; stays || kindOf(name) == api.NameOther {
			continue
		}
		if e := d.Delete(name); e != api.OK {
			return e
		}
	}
	return api.OK
}

func kindOf(name string) int {
	kind, _, _ := manifest.Kind(name)
	return kind
}

// readRuns opens the runs that the manifest names, and makes of their words the pairs that live; not, if they do not go together.
func (k *Keep) readRuns() bool {
	for _, info := range k.seen.Runs {
		r, e := run.Open(k.disk, k.seen.Opts, info)
		if e != api.OK {
			return false
		}
		k.runs = append(k.runs, r)
	}
	words, ok := lastWords(k.runs)
	if !ok {
		return false
	}
	for pair, last := range words {
		if last.dead {
			continue
		}
		if _, lives := k.living.code(pair.ID); lives || k.living.count() >= api.MaxPairs {
			return false
		}
		k.living.add(pair.ID, pair.Code)
	}
	return true
}

// word is what an update said of a pair.
type word struct {
	seq  int
	dead bool
}

// lastWords are those of all runs about each pair; not, if two words have one number.
func lastWords(runs []*run.Run) (map[api.Pair]word, bool) {
	words := map[api.Pair]word{}
	var seqs []int
	for _, r := range runs {
		for _, e := range r.All(0) {
			seqs = append(seqs, e.Seq)
			pair := api.Pair{ID: e.ID, Code: e.Code}
			if e.Seq > words[pair].seq {
				words[pair] = word{seq: e.Seq, dead: e.Dead}
			}
		}
	}
	count := len(seqs)
	slices.Sort(seqs)
	return words, len(slices.Compact(seqs)) == count
}

// readJournal makes the journal's updates, one by one; not, if one of them can't be.
func (k *Keep) readJournal() bool {
	updates, _, e := journal.Look(k.disk, k.seen.Journal, k.seen.Seq, k.seen.Width)
	if e != api.OK {
		return false
	}
	for _, u := range updates {
		code, e := k.spokenOf(u)
		if e != api.OK {
			return false
		}
		k.take(u, code)
	}
	return true
}
