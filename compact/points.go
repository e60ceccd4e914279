package compact

import "kindred/api"

// outcome is what has become of a step at one of its points.
type outcome int

const (
	passed  outcome = iota // the point does not apply: the next one is asked
	stepped                // the step is done
	idle                   // there is nothing to do
)

// checkPower refuses whatever is asked for, if the power is off or the keep is given up. (Of the keep's questions this one is refused for no other reason.)
func (c *Compactor) checkPower() (outcome, api.Errno) {
	if c == nil {
		return passed, api.ErrDown
	}
	_, e := c.keep.At(-1, 0)
	return passed, e
}

// forgetStale calls a compaction off whose runs somebody has put something else in the place of.
func (c *Compactor) forgetStale() (outcome, api.Errno) {
	if c.work == nil || !c.work.isStale(c.keep.Runs()) {
		return passed, api.OK
	}
	return passed, c.forget()
}

// goOn does the next piece of the compaction that is under way.
func (c *Compactor) goOn() (outcome, api.Errno) {
	if c.work == nil {
		return passed, api.OK
	}
	e := c.piece()
	if e != api.OK && e != api.ErrDown {
		c.forget() // what stood in the way is the answer, also if the power goes here
	}
	return stepped, e
}

// makeRoom begins a compaction, if there are so many runs that nothing could be flushed.
func (c *Compactor) makeRoom() (outcome, api.Errno) {
	if len(c.keep.Runs()) < api.MaxRuns {
		return passed, api.OK
	}
	return c.begin()
}

// flush writes what waits.
func (c *Compactor) flush() (outcome, api.Errno) {
	if _, waits := c.keep.Waits(); !waits {
		return passed, api.OK
	}
	_, e := c.keep.Flush()
	return stepped, e
}

// rest: there is nothing to do.
func (c *Compactor) rest() (outcome, api.Errno) {
	if !isClean(c.keep.Runs()) {
		return passed, api.OK
	}
	return idle, api.OK
}

// begin takes all runs that stand.
func (c *Compactor) begin() (outcome, api.Errno) {
	number, e := c.keep.Number()
	if e != api.OK {
		return stepped, e
	}
	c.work = take(c.keep, number)
	return stepped, api.OK
}

// piece gathers on, or ends the compaction, if all is gathered.
func (c *Compactor) piece() api.Errno {
	if !c.work.isGathered() {
		return c.work.gather()
	}
	r, e := c.work.open()
	if e != api.OK {
		return e
	}
	if e := c.keep.Swap(len(c.work.taken), r); e != api.OK {
		return e
	}
	c.work = nil
	return api.OK
}

// forget calls the compaction off that is under way, if one is.
func (c *Compactor) forget() api.Errno {
	if c.work == nil {
		return api.OK
	}
	e := c.work.takeAway()
	c.work = nil
	return e
}
