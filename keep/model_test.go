package keep_test

import (
	"fmt"
	"maps"
	"regexp"
	"slices"
	"strconv"
	"strings"

	"kindred/api"
	"kindred/disk"
	"kindred/internal/sample"
	"kindred/journal"
	"kindred/manifest"
	"kindred/run"
)

// A second writing of the chapter: what a call does is done to another disk, step by step; and what a keep tells is read out of that disk's files, anew behind every call.

// state is what a store's files say.
type state struct {
	m       api.Manifest
	runs    [][]api.Entry // the words of each
	updates []api.Update  // the journal's
	pairs   map[int]string
	words   map[api.Pair]api.Entry // those that wait
}

// read is what a disk's files say; ErrCorrupt, if they do not go together.
func read(d *disk.Disk) (state, api.Errno) {
	m, e := manifest.Load(d)
	if e != api.OK {
		return state{}, e
	}
	s := state{m: m, pairs: map[int]string{}, words: map[api.Pair]api.Entry{}}
	last := map[api.Pair]api.Entry{}
	seqs := map[int]int{}
	for _, info := range m.Runs {
		r, e := run.Open(d, m.Opts, info)
		if e != api.OK {
			return state{}, api.ErrCorrupt
		}
		list := r.All(0)
		s.runs = append(s.runs, list)
		for _, x := range list {
			seqs[x.Seq]++
			if p := (api.Pair{ID: x.ID, Code: x.Code}); last[p].Seq <= x.Seq {
				last[p] = x
			}
			if seqs[x.Seq] == 2 {
				return state{}, api.ErrCorrupt
			}
		}
	}
	for p, x := range last {
		if x.Dead {
			continue
		}
		if _, twice := s.pairs[p.ID]; twice {
			return state{}, api.ErrCorrupt
		}
		s.pairs[p.ID] = p.Code
	}
	updates, _, e := journal.Look(d, m.Journal, m.Seq, m.Width)
	if e != api.OK || len(s.pairs) > 1048576 {
		return state{}, api.ErrCorrupt
	}
	for _, u := range updates {
		if s.refusal(u) != api.OK {
			return state{}, api.ErrCorrupt
		}
		s.make(u)
	}
	return s, api.OK
}

func (s *state) seq() int { return s.m.Seq + len(s.updates) }

// refusal is 15.7 and 15.8, but for ErrDown, ErrWorn and the journal's.
func (s *state) refusal(u api.Update) api.Errno {
	if u.ID < 0 || u.ID > 281474976710656 {
		return api.ErrID
	}
	code, lives := s.pairs[u.ID]
	if u.Kind == 1 {
		if len(u.Code)*8 != s.m.Width {
			return api.ErrCode
		}
		if lives {
			return api.ErrTwice
		}
		if len(s.pairs) == 1048576 {
			return api.ErrMany
		}
		code = u.Code
	} else if !lives {
		return api.ErrGone
	}
	if _, waits := s.words[api.Pair{ID: u.ID, Code: code}]; !waits && len(s.words) == 65536 {
		return api.ErrBusy
	}
	return api.OK
}

func (s *state) make(u api.Update) {
	p := api.Pair{ID: u.ID, Code: u.Code}
	if u.Kind == 2 {
		p.Code = s.pairs[u.ID]
		delete(s.pairs, u.ID)
	} else {
		s.pairs[u.ID] = u.Code
	}
	s.words[p] = api.Entry{Code: p.Code, ID: p.ID, Seq: u.Seq, Dead: u.Kind == 2}
	s.updates = append(s.updates, u)
}

// list are the pairs, ids rising.
func (s *state) list() []api.Pair {
	var list []api.Pair
	for _, id := range slices.Sorted(maps.Keys(s.pairs)) {
		list = append(list, api.Pair{ID: id, Code: s.pairs[id]})
	}
	return list
}

// tables are how many there are.
func (s *state) tables() int {
	if s.m.Mode == 2 {
		return 1
	}
	return s.m.Chunks
}

// value is a code's in table j: its bits are written out and the chunk's are read as a number.
func (s *state) value(j int, code string) int {
	if s.m.Mode == 2 {
		return 0
	}
	left := bitsOf(code)
	for i := 0; ; i++ {
		n := len(left) / (s.m.Chunks - i)
		if len(left)%(s.m.Chunks-i) > 0 {
			n++ // what is left, over the chunks that are left: the greater ones come first
		}
		if i == j {
			v, _ := strconv.ParseInt(left[:n], 2, 64)
			return int(v)
		}
		left = left[n:]
	}
}

// written are codes whose bits were written out already: they are asked for often.
var written = map[string]string{}

func bitsOf(code string) string {
	if written[code] == "" {
		var b strings.Builder
		for i := range len(code) {
			fmt.Fprintf(&b, "%08b", code[i])
		}
		written[code] = b.String()
	}
	return written[code]
}

// byCode puts words in the order that a run wants.
func byCode(list []api.Entry) []api.Entry {
	slices.SortFunc(list, func(a, b api.Entry) int {
		if a.Code != b.Code {
			return strings.Compare(a.Code, b.Code)
		}
		return a.ID - b.ID
	})
	return list
}

// model is a keep over another disk.
type model struct {
	d      *disk.Disk
	age    int
	next   int
	synced int
	state
}

var oursForm = regexp.MustCompile(`^(manifest|manifest\.new|j([1-9][0-9]*)|r([1-9][0-9]*)\.(0|[1-9][0-9]{0,2}))$`)

// ours: it is a name of a store's file.
func ours(name string) bool {
	parts := oursForm.FindStringSubmatch(name)
	if parts == nil {
		return false
	}
	for _, number := range parts[2:4] {
		if n, err := strconv.Atoi(number); number != "" && (err != nil || n > 1099511627776) {
			return false
		}
	}
	table, _ := strconv.Atoi(parts[4])
	return table <= 127
}

func jname(n int) string { return fmt.Sprint("j", n) }

// clean deletes what is ours and is not among these.
func clean(d *disk.Disk, stay ...string) api.Errno {
	for _, name := range d.Names() {
		if !ours(name) || slices.Contains(stay, name) {
			continue
		}
		if e := d.Delete(name); e != api.OK {
			return e
		}
	}
	return api.OK
}

func modelCreate(d *disk.Disk, o api.Opts) (*model, api.Errno) {
	first := api.Manifest{Opts: o, Next: 2, Journal: 1}
	if e := manifest.Check(first); e != api.OK {
		return nil, e
	}
	if d.Down() {
		return nil, api.ErrDown
	}
	if slices.Contains(d.Names(), "manifest") {
		return nil, api.ErrTaken
	}
	if e := clean(d); e != api.OK {
		return nil, e
	}
	if e := d.Create("j1"); e != api.OK {
		return nil, e
	}
	if e := manifest.Store(d, first); e != api.OK {
		if e != api.ErrDown {
			d.Delete("j1")
		}
		return nil, e
	}
	m := &model{d: d, age: d.Age(), next: 2}
	m.look()
	return m, api.OK
}

func modelOpen(d *disk.Disk) (*model, api.Errno) {
	if d.Down() {
		return nil, api.ErrDown
	}
	s, e := read(d)
	if e != api.OK {
		return nil, e
	}
	stay := []string{"manifest", jname(s.m.Journal)}
	for _, info := range s.m.Runs {
		stay = append(stay, run.Names(info.Number, s.m.Opts)...)
	}
	if e := clean(d, stay...); e != api.OK {
		return nil, e
	}
	good := ""
	for _, u := range s.updates {
		b, _ := journal.Write(u)
		good += b
	}
	if n, _ := d.Size(jname(s.m.Journal)); n != len(good) {
		if e := d.Cut(jname(s.m.Journal), len(good)); e != api.OK {
			return nil, e
		}
	}
	return &model{d: d, age: d.Age(), next: s.m.Next, synced: s.m.Seq, state: s}, api.OK
}

// look reads the files again.
func (m *model) look() {
	s, e := read(m.d)
	if e != api.OK {
		panic(fmt.Sprint("the second writing's own store is refused: ", int(e)))
	}
	m.state = s
}

func (m *model) down() bool { return m.d.Down() || m.d.Age() != m.age }

func (m *model) update(kind, id int, code string) api.Errno {
	if m.down() {
		return api.ErrDown
	}
	u := api.Update{Seq: m.seq() + 1, Kind: kind, ID: id, Code: code}
	if e := m.refusal(u); e != api.OK {
		return e
	}
	if u.Seq > 1152921504606846976 {
		return api.ErrWorn
	}
	b, _ := journal.Write(u)
	if e := m.d.Append(jname(m.m.Journal), b); e != api.OK {
		return e
	}
	m.look()
	return api.OK
}

func (m *model) sync() api.Errno {
	if m.down() {
		return api.ErrDown
	}
	e := m.d.Sync(jname(m.m.Journal))
	if e == api.OK {
		m.synced = m.seq()
	}
	return e
}

// write is points 1 to 3 of a Flush or a Reset.
func (m *model) write(list []api.Entry, next api.Manifest) api.Errno {
	n := m.next
	var e api.Errno
	if len(list) > 0 {
		if e = run.Write(m.d, n, next.Opts, next.Runs[len(next.Runs)-1], byCode(list)); e != api.OK {
			return e
		}
	}
	if e = m.d.Create(jname(n + 1)); e == api.OK {
		if e = manifest.Store(m.d, next); e != api.OK && e != api.ErrDown {
			m.d.Delete(jname(n + 1))
		}
	}
	if e != api.OK && e != api.ErrDown && len(list) > 0 {
		run.Delete(m.d, n, next.Opts)
	}
	return e
}

func (m *model) flush() (bool, api.Errno) {
	switch {
	case m.down():
		return false, api.ErrDown
	case len(m.updates) == 0:
		return false, api.OK
	case len(m.m.Runs) == 24:
		return false, api.ErrBusy
	case m.next+2 > 1099511627776:
		return false, api.ErrWorn
	}
	next := m.m
	next.Seq, next.Next, next.Journal = m.seq(), m.next+2, m.next+1
	next.Runs = append(slices.Clone(next.Runs), api.RunInfo{Number: m.next, Lo: m.m.Seq, Hi: m.seq(), Count: len(m.words)})
	if e := m.write(slices.Collect(maps.Values(m.words)), next); e != api.OK {
		return false, e
	}
	if e := m.d.Delete(jname(m.m.Journal)); e != api.OK {
		return false, e
	}
	m.synced, m.next = m.seq(), m.next+2
	m.look()
	return true, api.OK
}

func (m *model) number() (int, api.Errno) {
	if m.down() {
		return 0, api.ErrDown
	}
	if m.next == 1099511627776 {
		return 0, api.ErrWorn
	}
	m.next++
	return m.next - 1, api.OK
}

// swap takes what the manifest is to say of the run; nil: none.
func (m *model) swap(n int, info *api.RunInfo) api.Errno {
	if m.down() {
		return api.ErrDown
	}
	if n < 0 || n > len(m.m.Runs) || info != nil && n == 0 {
		return api.ErrRange
	}
	if n == 0 {
		return api.OK
	}
	if info != nil && (info.Lo != m.m.Runs[0].Lo || info.Hi != m.m.Runs[n-1].Hi) {
		return api.ErrSeq
	}
	next := m.m
	next.Next, next.Runs = m.next, nil
	if info != nil {
		next.Runs = append(next.Runs, *info)
	}
	next.Runs = append(next.Runs, m.m.Runs[n:]...)
	if e := manifest.Store(m.d, next); e != api.OK {
		return e
	}
	for _, old := range m.m.Runs[:n] {
		if e := run.Delete(m.d, old.Number, m.m.Opts); e != api.OK {
			return e
		}
	}
	m.look()
	return api.OK
}

func (m *model) reset(seq int, pairs []api.Pair) api.Errno {
	if m.down() {
		return api.ErrDown
	}
	if len(pairs) > 1048576 {
		return api.ErrMany
	}
	ahead := -1
	for _, p := range pairs {
		if p.ID < 0 || p.ID > 281474976710656 {
			return api.ErrID
		}
		if 8*len(p.Code) != m.m.Width {
			return api.ErrCode
		}
		if p.ID <= ahead {
			return api.ErrOrder
		}
		ahead = p.ID
	}
	if seq <= m.seq() || seq > 1152921504606846976 || len(pairs) > seq {
		return api.ErrSeq
	}
	if m.next+2 > 1099511627776 {
		return api.ErrWorn
	}
	var list []api.Entry
	for i, p := range pairs {
		list = append(list, api.Entry{Code: p.Code, ID: p.ID, Seq: seq - len(pairs) + 1 + i})
	}
	next := m.m
	next.Seq, next.Next, next.Journal, next.Runs = seq, m.next+2, m.next+1, nil
	if len(pairs) > 0 {
		next.Runs = []api.RunInfo{{Number: m.next, Lo: seq - len(pairs), Hi: seq, Count: len(pairs)}}
	}
	if e := m.write(list, next); e != api.OK {
		return e
	}
	if e := m.d.Delete(jname(m.m.Journal)); e != api.OK {
		return e
	}
	for _, old := range m.m.Runs {
		if e := run.Delete(m.d, old.Number, m.m.Opts); e != api.OK {
			return e
		}
	}
	m.next, m.synced = m.next+2, seq
	m.look()
	return api.OK
}

// bytesOf is all that a file has.
func bytesOf(d *disk.Disk, name string) string {
	n, _ := d.Size(name)
	b, _ := d.Read(name, 0, n)
	return b
}

// put makes a file of these bytes, in the place of what has the name.
func put(d *disk.Disk, name, b string) {
	d.Delete(name)
	d.Create(name)
	d.Append(name, b)
	d.Sync(name)
}

// seenOf is all that a disk tells of itself.
func seenOf(d *disk.Disk) string {
	var b strings.Builder
	fmt.Fprintf(&b, "%q %v %d %d %d", d.Image(), d.Down(), d.Used(), d.Writes(), d.Age())
	for _, name := range d.Names() {
		fmt.Fprintf(&b, " %s %q", name, bytesOf(d, name))
	}
	return b.String()
}

// told is something in words, not too many.
func told(what any) string {
	s := fmt.Sprintf("%+q", fmt.Sprintf("%+v", what))
	if len(s) > 1500 {
		s = s[:1500] + " .."
	}
	return s
}

// maker makes options, ids, codes and power cuts up.
type maker struct{ *sample.Source }

func from(seed int) maker { return maker{sample.From(seed)} }

// opts are some that go, mostly of few tables.
func (g maker) opts() api.Opts {
	all := []api.Opts{{Width: 64, Chunks: 2, Mode: 1}, {Width: 64, Chunks: 3, Mode: 1}, {Width: 64, Mode: 2}, {Width: 64, Mode: 2}, {Width: 128, Chunks: 4, Mode: 1}, {Width: 192, Mode: 2}, {Width: 64, Chunks: 8, Mode: 1}}
	return all[g.Below(len(all))]
}

// id is one of a few.
func (g maker) id() int {
	return []int{g.Below(4), g.Below(9), 1<<48 - g.Below(2), 127 + g.Below(3)}[g.Below(4)]
}

// code is one of a few, near one another or not.
func (g maker) code(w int) string {
	b := []byte(strings.Repeat([]string{"\x00", "\xff"}[g.Below(2)], w/8))
	for range g.Below(3) {
		b[[]int{0, w/8 - 1, w / 16}[g.Below(3)]] ^= byte(g.Below(3))
	}
	return string(b)
}

// list are pairs whose ids rise.
func (g maker) list(w, n int) []api.Pair {
	ids := map[int]int{}
	for range n {
		ids[g.id()]++
	}
	var list []api.Pair
	for _, id := range slices.Sorted(maps.Keys(ids)) {
		list = append(list, api.Pair{ID: id, Code: g.code(w)})
	}
	return list
}

// cuts keep of some files something.
func (g maker) cuts(next int) []api.Cut {
	var list []api.Cut
	some := func(name string) {
		if g.Below(2) == 0 {
			list = append(list, api.Cut{Name: name, Keep: []int{-1, 1, 5, g.Below(60), 999, 1 << 40}[g.Below(6)], Spoil: []byte{0, 0, 1, 0x80, 0xff}[g.Below(5)]})
		}
	}
	some("manifest.new")
	some("manifest")
	for n := max(1, next-6); n <= next+3; n++ {
		some(jname(n))
		some(fmt.Sprintf("r%d.0", n))
		some(fmt.Sprintf("r%d.1", n))
	}
	return list
}
