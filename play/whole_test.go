package play_test

import (
	"cmp"
	"fmt"
	"maps"
	"math/big"
	"slices"
	"testing"

	"kindred/api"
	"kindred/internal/sample"
	"kindred/play"
)

// The promises of the whole, of what scripts answer: they are held against a list of the updates that were accepted, and a plain look at the pairs that these make. No part of the engine is asked.

// state is what an engine of a script is.
type state int

const (
	none    state = iota // there is none
	working              // it takes calls
	lost                 // it is given up
	ended                // it was closed
)

// past is what a script has done so far, as its answers tell it.
type past struct {
	t       *testing.T
	opts    api.Opts
	where   string
	small   bool // the disk may be full
	engine  state
	made    bool // a create answered OK
	armed   bool
	down    bool
	crashed bool // the power was cut behind the last opening
	unknown bool // how many updates stand is told by the next count
	updates []api.Update
	under   []api.Update // the one that was under way when the power went
	floor   int          // so many updates stand for good
	synced  int          // so many the engine has to tell as synced
	number  int          // the follower's; -1: there is none
	last    api.Step     // the step ahead, and what it answered
	told    api.Answer
	image   []int // what the last image answered, if nothing but openings and questions came since
	seen    map[int]int
}

func (p *past) fail(promise string, s api.Step, a api.Answer, want any) {
	p.t.Helper()
	p.t.Fatalf("%s: %s: %.200q answers %+v, want %+v (%d updates, %d for good)", promise, p.where, play.Text([]api.Step{s}), a, want, len(p.updates), p.floor)
}

// want holds an answer against the one that there has to be.
func (p *past) want(promise string, s api.Step, a, want api.Answer) {
	p.t.Helper()
	if !same([]api.Answer{a}, []api.Answer{want}) {
		p.fail(promise, s, a, want)
	}
}

// living are the pairs that updates make.
func living(updates []api.Update) map[int]string {
	m := map[int]string{}
	for _, u := range updates {
		if u.Kind == api.Put {
			m[u.ID] = u.Code
		} else {
			delete(m, u.ID)
		}
	}
	return m
}

// apart is in how many bits of a part two codes are unlike.
func apart(a, b string, part api.Chunk) int {
	d := 0
	for i := part.From; i < part.From+part.Bits; i++ {
		if a[i/8]>>(7-i%8)&1 != b[i/8]>>(7-i%8)&1 {
			d++
		}
	}
	return d
}

// nearest are all pairs, the nearest to a code first.
func nearest(m map[int]string, q string) []api.Hit {
	var list []api.Hit
	for id, code := range m {
		list = append(list, api.Hit{Dist: apart(code, q, api.Chunk{Bits: 8 * len(q)}), ID: id, Code: code})
	}
	slices.SortFunc(list, func(a, b api.Hit) int { return cmp.Or(cmp.Compare(a.Dist, b.Dist), cmp.Compare(a.ID, b.ID)) })
	return list
}

// parts are the chunks of the codes.
func parts(o api.Opts) []api.Chunk {
	var list []api.Chunk
	from := 0
	for j := range o.Chunks {
		bits := o.Width / o.Chunks
		if j < o.Width%o.Chunks {
			bits++
		}
		list = append(list, api.Chunk{From: from, Bits: bits})
		from += bits
	}
	return list
}

// cost is what a search costs that ends behind the least number of shells for which enough says so, of the candidates' distances, or all codes are candidates, or there is no further shell.
func cost(o api.Opts, all []api.Hit, q string, enough func(n int, dists []int) bool) api.Stats {
	chunks := parts(o)
	codes, most := map[string]int{}, 0
	for _, h := range all {
		codes[h.Code] = o.Width
		for _, c := range chunks {
			codes[h.Code] = min(codes[h.Code], apart(h.Code, q, c))
		}
	}
	for _, c := range chunks {
		most = max(most, c.Bits)
	}
	x := api.Stats{}
	for {
		x.Codes, x.Pairs = 0, 0
		var dists []int
		for _, d := range codes {
			if d < x.Shells {
				x.Codes++
			}
		}
		for _, h := range all {
			if codes[h.Code] < x.Shells {
				dists = append(dists, h.Dist)
			}
		}
		x.Pairs = len(dists)
		if x.Codes == len(codes) || x.Shells > most || enough(x.Shells, dists) {
			return x
		}
		for _, c := range chunks {
			values := map[string]int{}
			for code := range codes {
				values[bitsOf(code, c)]++
			}
			if masks := new(big.Int).Binomial(int64(c.Bits), int64(x.Shells)); masks.Cmp(big.NewInt(int64(len(values)))) < 0 {
				x.Steps += int(masks.Int64())
			} else if c.Bits >= x.Shells {
				x.Steps += len(values)
			}
		}
		x.Shells++
	}
}

// bitsOf are the bits of a part of a code.
func bitsOf(code string, c api.Chunk) string {
	b := make([]byte, c.Bits)
	for i := range b {
		b[i] = code[(c.From+i)/8] >> (7 - (c.From+i)%8) & 1
	}
	return string(b)
}

// search is what a step for the nearest, or for all within a distance, answers.
func (p *past) search(s api.Step) api.Answer {
	n, q := s.N[0], s.S[0]
	top := s.Kind == api.StepTop
	switch {
	case len(q) != p.opts.Width/8:
		return api.Answer{Code: api.ErrCode}
	case top && (n < 0 || n > api.MaxK):
		return api.Answer{Code: api.ErrK}
	case !top && (n < 0 || n > p.opts.Width):
		return api.Answer{Code: api.ErrRadius}
	}
	all := nearest(living(p.updates), q)
	hits := all[:min(n, len(all))]
	enough := func(shells int, dists []int) bool {
		return len(dists) >= n && (n == 0 || p.opts.Chunks*shells > dists[n-1])
	}
	if !top {
		hits = all[:len(all)-len(slices.DeleteFunc(slices.Clone(all), func(h api.Hit) bool { return h.Dist <= n }))]
		enough = func(shells int, _ []int) bool { return p.opts.Chunks*shells > n }
	}
	var x api.Stats
	if p.opts.Mode == api.Chunked {
		x = cost(p.opts, all, q, enough)
	}
	return withHits(api.Answer{N: []int{x.Shells, x.Steps, x.Codes, x.Pairs}}, hits)
}

// insert is what an insertion answers where there is room and power.
func (p *past) insert(id int, code string) api.Errno {
	switch _, there := living(p.updates)[id]; {
	case id < 0 || id > api.MaxID:
		return api.ErrID
	case len(code) != p.opts.Width/8:
		return api.ErrCode
	case there:
		return api.ErrTwice
	}
	return api.OK
}

// lives is what a question for a pair refuses, and a deletion where there is power.
func (p *past) lives(id int) api.Errno {
	switch _, there := living(p.updates)[id]; {
	case id < 0 || id > api.MaxID:
		return api.ErrID
	case !there:
		return api.ErrGone
	}
	return api.OK
}

// joins are all two pairs at most r apart.
func joins(m map[int]string, r int) []api.Near {
	var list []api.Near
	ids := slices.Sorted(maps.Keys(m))
	for i, a := range ids {
		for _, b := range ids[i+1:] {
			if d := apart(m[a], m[b], api.Chunk{Bits: 8 * len(m[a])}); d <= r {
				list = append(list, api.Near{Dist: d, A: a, B: b})
			}
		}
	}
	slices.SortStableFunc(list, func(a, b api.Near) int { return cmp.Compare(a.Dist, b.Dist) })
	return list
}

// joined is what a join answers.
func (p *past) joined(r int) (a api.Answer) {
	if r < 0 || r > p.opts.Width {
		return api.Answer{Code: api.ErrRadius}
	}
	for _, x := range joins(living(p.updates), r) {
		a.N = append(a.N, x.Dist, x.A, x.B)
	}
	return a
}

// groups is what a search for groups answers: each pair takes the least id of what it hangs together with, until nothing changes.
func (p *past) groups(r, least int) (a api.Answer) {
	switch {
	case r < 0 || r > p.opts.Width:
		return api.Answer{Code: api.ErrRadius}
	case least < 1 || least > api.MaxPairs:
		return api.Answer{Code: api.ErrLeast}
	}
	m := living(p.updates)
	first := map[int]int{}
	for id := range m {
		first[id] = id
	}
	near := joins(m, r)
	for changed := true; changed; {
		changed = false
		for _, x := range near {
			if low := min(first[x.A], first[x.B]); first[x.A] != low || first[x.B] != low {
				first[x.A], first[x.B], changed = low, low, true
			}
		}
	}
	members := map[int][]int{}
	for _, id := range slices.Sorted(maps.Keys(m)) {
		members[first[id]] = append(members[first[id]], id)
	}
	for _, id := range slices.Sorted(maps.Keys(members)) {
		if len(members[id]) >= least {
			a.N = slices.Concat(a.N, []int{len(members[id])}, members[id])
		}
	}
	return a
}

// counts is what count answers but for Synced.
func (p *past) counts() []int {
	m := living(p.updates)
	codes := map[string]int{}
	for _, c := range m {
		codes[c]++
	}
	return []int{len(m), len(codes), len(p.updates)}
}

// see holds a step's answer against the past, and makes it part of it.
func (p *past) see(s api.Step, a api.Answer) {
	p.t.Helper()
	p.seen[s.Kind]++
	asks := s.Kind >= api.StepInsert && s.Kind <= api.StepClose || s.Kind >= api.StepGroups && s.Kind <= api.StepSend
	if s.Kind == api.StepSend && p.engine != none {
		// There is a follower, whatever the engine answers then.
		p.number = max(p.number, 0)
	}
	switch {
	case s.Kind == api.StepCount && p.engine != none:
		p.count(s, a)
	case asks && p.engine == none:
		p.want("26.1", s, a, api.Answer{Code: api.ErrClosed})
	case asks && p.engine == ended:
		p.want("17.2", s, a, api.Answer{Code: api.ErrClosed})
	case asks && (p.engine == lost || p.down):
		p.want("17.2", s, a, api.Answer{Code: api.ErrDown})
		if s.Kind == api.StepClose {
			p.engine = ended
		}
	case s.Kind >= api.StepInsert && s.Kind <= api.StepClose:
		p.call(s, a)
	case s.Kind >= api.StepGroups && s.Kind <= api.StepFollow:
		p.around(s, a)
	default:
		p.world(s, a)
	}
	if s.Kind != api.StepOpen && s.Kind != api.StepCount && s.Kind != api.StepRadius && s.Kind != api.StepImage {
		p.image = nil
	}
	p.last, p.told = s, a
}

// count tells how many updates stand behind an opening, and what has to stand for good.
func (p *past) count(s api.Step, a api.Answer) {
	if a.Code != api.OK || len(a.N) != 4 {
		p.fail("26", s, a, "four numbers")
	}
	if p.unknown {
		seq := a.N[2]
		all := slices.Concat(p.updates, p.under)
		if seq < p.floor || seq > len(all) || !p.crashed && seq != len(p.updates) {
			p.fail("W3", s, a, "a beginning of the updates")
		}
		p.updates, p.under = all[:seq], nil
		if p.crashed {
			// What a cut has left is durable.
			p.floor = seq
		}
		p.unknown, p.crashed = false, false
	}
	if !slices.Equal(a.N[:3], p.counts()) {
		p.fail("W1", s, a, p.counts())
	}
	if a.N[3] < p.synced || a.N[3] > a.N[2] {
		p.fail("17.8", s, a, p.synced)
	}
	p.synced = a.N[3]
	p.floor = max(p.floor, a.N[3])
}

// call is one of an engine that works.
func (p *past) call(s api.Step, a api.Answer) {
	switch s.Kind {
	case api.StepInsert:
		p.update(s, a, p.insert(s.N[0], s.S[0]), api.Update{Kind: api.Put, ID: s.N[0], Code: s.S[0]})
	case api.StepDelete:
		p.update(s, a, p.lives(s.N[0]), api.Update{Kind: api.Dead, ID: s.N[0]})
	case api.StepGet:
		want := api.Answer{Code: p.lives(s.N[0])}
		if want.Code == api.OK {
			want.S = []string{living(p.updates)[s.N[0]]}
		}
		p.want("W1", s, a, want)
	case api.StepTop, api.StepRadius:
		p.want("W1, W2", s, a, p.search(s))
	case api.StepSync, api.StepClose:
		if p.went(s, a) {
			break
		}
		p.want("17.3, 17.4", s, a, api.Answer{})
		p.floor, p.synced = len(p.updates), len(p.updates)
		if s.Kind == api.StepClose {
			p.engine = ended
		}
	case api.StepCompact:
		if p.went(s, a) || p.small && a.Code == api.ErrFull {
			break
		}
		if a.Code != api.OK || len(a.N) != 1 || a.N[0] != 0 && a.N[0] != 1 {
			p.fail("17.4", s, a, "one number")
		}
	}
}

// went: the power went in this call; a call that writes may come to that where a number is armed.
func (p *past) went(s api.Step, a api.Answer) bool {
	if a.Code != api.ErrDown || !p.armed {
		return false
	}
	p.want("R3", s, a, api.Answer{Code: api.ErrDown})
	p.armed, p.down = false, true
	if p.engine == working {
		p.engine = lost
	}
	if s.Kind == api.StepClose {
		p.engine = ended
	}
	return true
}

// update is an insertion or a deletion.
func (p *past) update(s api.Step, a api.Answer, refusal api.Errno, u api.Update) {
	if refusal == api.OK && p.went(s, a) {
		p.under = []api.Update{u}
		return
	}
	if refusal == api.OK && p.small && a.Code == api.ErrFull {
		refusal = api.ErrFull
	}
	p.want("W1", s, a, api.Answer{Code: refusal})
	if refusal == api.OK {
		p.updates = append(slices.Clip(p.updates), u)
	}
}

// around is a step for groups, joins, and the follower.
func (p *past) around(s api.Step, a api.Answer) {
	switch s.Kind {
	case api.StepGroups:
		p.want("W11", s, a, p.groups(s.N[0], s.N[1]))
	case api.StepJoin:
		p.want("W11", s, a, p.joined(s.N[0]))
	case api.StepSend:
		if a.Code != api.OK {
			if len(a.N)+len(a.S) > 0 || a.Code != api.ErrApart && a.Code != api.ErrAhead {
				p.fail("W10", s, a, "a batch")
			}
			break
		}
		if len(a.N) != 2 || a.N[1] < p.number || a.N[1] > len(p.updates) {
			p.fail("W10", s, a, fmt.Sprint("a number from ", p.number))
		}
		// What a follower has its leader goes on having.
		p.number, p.floor = a.N[1], max(p.floor, a.N[1])
	case api.StepFollow:
		if p.number < 0 {
			p.want("26.1", s, a, api.Answer{Code: api.ErrEmpty})
			break
		}
		m := living(p.updates[:p.number])
		hits := nearest(m, s.S[0])
		p.want("W10", s, a, withHits(api.Answer{N: []int{p.number, len(m)}}, hits[:min(s.N[0], len(hits))]))
	}
}

// world is a step for the disk.
func (p *past) world(s api.Step, a api.Answer) {
	switch s.Kind {
	case api.StepCreate:
		p.create(s, a)
	case api.StepOpen:
		p.open(s, a)
	case api.StepArm:
		p.armed = !p.down && s.N[0] > 0
	case api.StepCrash:
		p.armed, p.down, p.crashed = false, false, true
		if p.engine == working {
			p.engine = lost
		}
	case api.StepRoom:
		// The disk is a new one with what is durable; what comes behind it is an opening.
		p.want("26", s, a, api.Answer{})
		p.armed, p.down, p.crashed = false, false, true
	case api.StepImage:
		if p.image != nil && !slices.Equal(a.N, p.image) {
			p.fail("W4", s, a, p.image)
		}
		p.image = a.N
	case api.StepInspect:
		p.inspect(s, a)
	}
}

func (p *past) create(s api.Step, a api.Answer) {
	switch {
	case p.down:
		p.want("17.1", s, a, api.Answer{Code: api.ErrDown})
	case p.made:
		p.want("17.1", s, a, api.Answer{Code: api.ErrTaken})
	case p.went(s, a), p.small && a.Code == api.ErrFull, a.Code == api.ErrTaken && p.crashed:
	default:
		p.want("17.1", s, a, api.Answer{})
		p.made, p.engine, p.crashed = true, working, false
	}
}

func (p *past) open(s api.Step, a api.Answer) {
	switch {
	case p.down:
		p.want("17.1", s, a, api.Answer{Code: api.ErrDown})
	case p.went(s, a), !p.made && a.Code == api.ErrNone:
	case a.Code != api.OK || len(a.N) != 1:
		p.fail("W3", s, a, "a store")
	default:
		// A create that was cut may have made one.
		p.made, p.engine, p.unknown, p.synced = true, working, true, 0
	}
}

// inspect tells of a store that lives no damage but the files of a compaction that is under way; and not these, where it found no room.
func (p *past) inspect(s api.Step, a api.Answer) {
	switch {
	case p.down:
		p.want("23.1", s, a, api.Answer{Code: api.ErrDown})
	case p.engine != working:
	case p.last.Kind == api.StepCompact && p.told.Code == api.ErrFull && p.went(s, a):
		// The power has gone where a file was to be taken away again.
	case p.last.Kind == api.StepCompact && p.told.Code == api.ErrFull || p.last.Kind == api.StepOpen:
		p.want("W6, W4", s, a, api.Answer{})
	case a.Code != api.OK || slices.ContainsFunc(a.N, func(e int) bool { return e != int(api.ErrExists) }):
		p.fail("W6", s, a, "files of a compaction alone")
	}
}

// walker makes up scripts of the whole.
type walker struct {
	*maker
	steps []api.Step
	codes []string
}

func (w *walker) add(kind int, n []int, s ...string) {
	w.steps = append(w.steps, api.Step{Kind: kind, N: n, S: s})
}

func numbers(list ...int) []int { return list }

func (w *walker) zero() string { return string(make([]byte, w.opts.Width/8)) }

// look opens the store and tells all that is in it.
func (w *walker) look() {
	w.add(api.StepOpen, nil)
	w.add(api.StepCount, nil)
	w.add(api.StepRadius, numbers(w.opts.Width), w.zero())
	w.add(api.StepImage, nil)
}

// power cuts it, perhaps at the opening again, and looks twice.
func (w *walker) power() {
	w.crash()
	for range w.Below(3) {
		w.add(api.StepArm, numbers(1+w.Below(6), w.Below(2)))
		w.add(aboutOne(w.maker, 6, api.StepOpen, api.StepCreate), nil)
		w.steps[len(w.steps)-1].Opts = w.opts
		w.crash()
	}
	w.steps = append(w.steps, api.Step{Kind: api.StepCreate, Opts: w.opts})
	w.look()
	w.look()
}

// crash keeps beginnings of some files, their last bytes perhaps changed.
func (w *walker) crash() {
	s := api.Step{Kind: api.StepCrash}
	keep := func(name string) {
		s.N, s.S = append(s.N, aboutOne(w.maker, 3, w.Below(120), 0, 999), aboutOne(w.maker, 3, 0, 1+w.Below(255))), append(s.S, name)
	}
	if w.Below(3) > 0 {
		keep("manifest.new")
		for number := 1; number < 60; number++ {
			keep(fmt.Sprint("j", number))
			for table := range max(w.opts.Chunks, 1) {
				keep(fmt.Sprint("r", number, ".", table))
			}
		}
	}
	w.steps = append(w.steps, s)
}

// some is a step of the usual kinds.
func (w *walker) some() {
	switch code := pick(w.maker, w.codes...); w.Below(20) {
	case 0, 1, 2, 3, 4, 5, 6:
		w.add(api.StepInsert, numbers(aboutOne(w.maker, 40, w.Below(30), -1, api.MaxID+1)), aboutOne(w.maker, 40, code, code+"x"))
	case 7, 8, 9:
		w.add(api.StepDelete, numbers(w.Below(30)))
	case 10:
		w.add(api.StepGet, numbers(w.Below(30)))
	case 11:
		w.add(api.StepTop, numbers(aboutOne(w.maker, 8, w.Below(6), -1, 4096, 4097)), code)
	case 12:
		w.add(api.StepRadius, numbers(aboutOne(w.maker, 8, w.Below(w.opts.Width/3), -1, w.opts.Width+1)), code)
	case 13:
		w.add(pick(w.maker, api.StepSync, api.StepSync, api.StepCount), nil)
	case 14, 15, 16:
		for range 1 + w.Below(4) {
			w.add(api.StepCompact, nil)
			w.add(api.StepInspect, nil)
		}
	case 17:
		w.add(api.StepSend, numbers(1+w.Below(9)))
		w.add(api.StepFollow, numbers(pick(w.maker, 4096, w.Below(4))), code)
	case 18:
		w.add(api.StepGroups, numbers(w.Below(w.opts.Width/3), 1+w.Below(3)))
	case 19:
		w.add(api.StepJoin, numbers(w.Below(w.opts.Width/3)))
	}
}

// walk is a script that comes to its end; and where its last compactions begin, and the last batches of the follower.
func walk(seed int, o api.Opts) ([]api.Step, int, int) {
	w := &walker{maker: makerOf(seed, o)}
	w.codes = append(slices.Clone(w.maker.codes), w.zero())
	if w.Below(3) == 0 {
		w.add(api.StepArm, numbers(1+w.Below(8), w.Below(2)))
	}
	w.steps = append(w.steps, api.Step{Kind: api.StepCreate, Opts: o})
	for range 6 {
		for range 5 + w.Below(25) {
			w.some()
		}
		switch w.Below(6) {
		case 0:
			w.add(api.StepClose, nil)
			w.look()
		case 1:
			w.look()
			w.look()
		case 2:
			w.add(api.StepRoom, numbers(1<<20))
			w.steps = append(w.steps, api.Step{Kind: api.StepCreate, Opts: w.opts})
			w.look()
		case 3:
			w.power()
		default:
			w.add(api.StepArm, numbers(aboutOne(w.maker, 3, 1+w.Below(30), 1, 2, 3, 4, 5), w.Below(2)))
			for range 8 {
				w.some()
			}
			w.power()
		}
	}
	w.power()
	w.add(api.StepSync, nil)
	w.add(api.StepCount, nil)
	at := len(w.steps)
	for range 6 + 3*max(o.Chunks, 1) + 2 {
		w.add(api.StepCompact, nil)
	}
	w.look()
	w.add(api.StepInspect, nil)
	w.add(api.StepSync, nil)
	end := len(w.steps)
	// There are fewer than 300 updates, and 7 go with a batch.
	for range 300/7 + 2 {
		w.add(api.StepSend, numbers(7))
	}
	w.add(api.StepFollow, numbers(4096), w.zero())
	return w.steps, at, end
}

// checkWalk plays a script and holds all that it answers against the past.
func checkWalk(t *testing.T, seed int, o api.Opts, capacity int, seen map[int]int) {
	t.Helper()
	steps, at, end := walk(seed, o)
	answers := play.Run(capacity, steps)
	if len(answers) != len(steps) {
		t.Fatalf("26.1: seed %d: %d answers to %d steps", seed, len(answers), len(steps))
	}
	p := &past{t: t, opts: o, number: -1, small: capacity < 1<<20, seen: seen}
	for i := range steps {
		p.where = fmt.Sprintf("seed %d, %+v, step %d", seed, o, i)
		p.see(steps[i], answers[i])
	}
	if p.small {
		return
	}
	// The runs have 256 entries at most, so this is as many steps as compaction takes.
	if last := answers[at+6+3*max(o.Chunks, 1) : at+6+3*max(o.Chunks, 1)+2]; !same(last, []api.Answer{{N: numbers(1)}, {N: numbers(1)}}) {
		t.Fatalf("W7: seed %d: the last steps answer %+v", seed, last)
	}
	if p.number != len(p.updates) {
		t.Fatalf("W10: seed %d: the follower is at %d of %d", seed, p.number, len(p.updates))
	}
	if answers[end-2].Code != api.OK || len(answers[end-2].N) > 0 {
		t.Fatalf("W7: seed %d: %+v", seed, answers[end-2])
	}
}

// TestWhole: W1 to W4, W6, W7, W10 and W11 by made-up scripts, in both modes, with the power cut at all writes and with little room.
func TestWhole(t *testing.T) {
	seen := map[int]int{}
	layouts := append(modes(), api.Opts{Width: 64, Chunks: 3, Mode: api.Chunked}, api.Opts{Width: 128, Mode: api.Treed})
	for seed := range 1200 {
		capacity := 1 << 20
		if seed%4 == 3 {
			capacity = 200 + sample.From(seed).Below(6000)
		}
		checkWalk(t, seed, layouts[seed%len(layouts)], capacity, seen)
	}
	for _, kind := range []int{api.StepCreate, api.StepOpen, api.StepInsert, api.StepDelete, api.StepTop, api.StepSync, api.StepCompact, api.StepClose, api.StepCrash, api.StepRoom, api.StepSend, api.StepJoin} {
		if seen[kind] < 300 {
			t.Errorf("%q: %d times", rows[kind-1], seen[kind])
		}
	}
}
