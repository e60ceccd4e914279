package compact

import (
	"slices"

	"kindred/api"
	"kindred/block"
	"kindred/disk"
	"kindred/keep"
	"kindred/merge"
	"kindred/run"
)

// compaction is one that is under way: the runs that it has taken, the run that it makes of them, how far it is.
type compaction struct {
	disk  *disk.Disk
	opts  api.Opts
	taken []*run.Run
	info  api.RunInfo // of its run, Count being told by the first table that is done
	names []string    // of its run's files, one a table
	made  int         // so many of these files it has made
	done  int         // so many tables are done
	at    *gathering  // of the table that it is at; nil, if nothing was gathered of it yet
}

// gathering is what a compaction has gathered of a table, and where what is still to come comes from.
type gathering struct {
	merger *merge.Merger
	list   []api.Entry
	next   api.Entry // the one that follows, if there are more
	more   bool
}

// take is a compaction of all runs that stand, there being one at least. Nothing is written, nothing gathered.
func take(k *keep.Keep, number int) *compaction {
	opts, runs := k.Seen().Opts, k.Runs()
	info := api.RunInfo{Number: number, Lo: runs[0].Info().Lo, Hi: runs[len(runs)-1].Info().Hi}
	return &compaction{disk: k.Disk(), opts: opts, taken: runs, info: info, names: run.Names(number, opts)}
}

// isStale: the first of these runs are not those that were taken.
func (w *compaction) isStale(runs []*run.Run) bool {
	n := len(w.taken)
	return len(runs) < n || !slices.Equal(runs[:n], w.taken)
}

// isGathered: all tables are done.
func (w *compaction) isGathered() bool { return w.done == len(w.names) }

// left is how many pieces there are at most.
func (w *compaction) left() int {
	if w.isGathered() {
		return 1
	}
	entries, gathered := countOf(w.taken), 0
	if w.at != nil {
		gathered = len(w.at.list)
	}
	others := len(w.names) - w.done - 1
	return piecesOf(entries-gathered) + others*piecesOf(entries) + 1
}

// gather gathers the next entries of the table that it is at; if these are the last, the table is done.
func (w *compaction) gather() api.Errno {
	if w.at == nil {
		at, e := gatheringOf(w.taken, w.done)
		if e != api.OK {
			return e
		}
		w.at = at
	}
	if e := w.at.goOn(); e != api.OK || w.at.more {
		return e
	}
	return w.endTable(w.at.list)
}

// endTable makes the file of the table that it is at, of all its entries.
func (w *compaction) endTable(list []api.Entry) api.Errno {
	w.at = nil
	if len(list) == 0 {
		// All tables have the same entries: none.
		w.done = len(w.names)
		return api.OK
	}
	w.info.Count = len(list)
	if e := w.write(list); e != api.OK {
		return e
	}
	w.done++
	return api.OK
}

// write makes a table's file durable.
func (w *compaction) write(list []api.Entry) api.Errno {
	b, e := block.Build(w.head(), list)
	if e != api.OK {
		return e
	}
	name := w.names[w.done]
	if e := w.disk.Create(name); e != api.OK {
		return e
	}
	w.made++
	if e := w.disk.Append(name, b); e != api.OK {
		return e
	}
	return w.disk.Sync(name)
}

// head is what the file of the table that it is at says of itself.
func (w *compaction) head() api.Head {
	return api.Head{Width: w.opts.Width, Table: w.done, Bits: bitsOf(w.opts, w.done), Lo: w.info.Lo, Hi: w.info.Hi, Count: w.info.Count}
}

// open is the run that the files make; nil, if there are no entries.
func (w *compaction) open() (*run.Run, api.Errno) {
	if w.info.Count == 0 {
		return nil, api.OK
	}
	return run.Open(w.disk, w.opts, w.info)
}

// takeAway deletes the files that were made, as long as there is power for it. Of other files of these names, which may have stood in the way, none is touched.
func (w *compaction) takeAway() api.Errno {
	for _, name := range w.names[:w.made] {
		if e := w.disk.Delete(name); e == api.ErrDown {
			return e
		}
	}
	return api.OK
}

// gatheringOf is one of what runs say in table j, with nothing gathered yet.
func gatheringOf(runs []*run.Run, j int) (*gathering, api.Errno) {
	var sources []merge.Source
	for _, r := range runs {
		sources = append(sources, sourceOf(r.All(j)))
	}
	// From the oldest run on there is nothing older that a dead entry would have to hide.
	g := &gathering{merger: merge.New(sources, true)}
	return g, g.ask()
}

// sourceOf gives a list's entries.
func sourceOf(list []api.Entry) merge.Source {
	place := 0
	return merge.Source{Next: func() (api.Entry, bool, api.Errno) {
		if place == len(list) {
			return api.Entry{}, false, api.OK
		}
		place++
		return list[place-1], true, api.OK
	}}
}

// ask looks one entry ahead: so it is known of a gathering whether there are more.
func (g *gathering) ask() (refusal api.Errno) {
	g.next, g.more, refusal = g.merger.Next()
	return refusal
}

// goOn gathers so many entries as a step may, or all that are left.
func (g *gathering) goOn() api.Errno {
	for range api.Unit {
		if !g.more {
			break
		}
		g.list = append(g.list, g.next)
		if e := g.ask(); e != api.OK {
			return e
		}
	}
	return api.OK
}

// bitsOf is how many bits a value has in table j: so many as the j-th chunk of the codes; in Treed mode one.
func bitsOf(o api.Opts, j int) int {
	switch {
	case o.Mode == api.Treed:
		return 1
	case j < o.Width%o.Chunks:
		return o.Width/o.Chunks + 1
	}
	return o.Width / o.Chunks
}
