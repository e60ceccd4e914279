package compact_test

import (
	"fmt"
	"slices"
	"strconv"
	"strings"

	"kindred/api"
	"kindred/disk"
	"kindred/internal/sample"
	"kindred/keep"
	"kindred/run"
)

// A second writing of the chapter, over a keep on another disk: what all tables will be is reckoned when a compaction begins, of the runs' words in a map, and their files' bytes are those that run.Write writes.

// model is a compactor.
type model struct {
	k     *keep.Keep
	age   int
	under *under
}

// under is a compaction that is under way.
type under struct {
	taken   []api.RunInfo
	number  int
	last    []api.Entry // what is left of the runs' words, by code, then id
	files   []string    // the bytes of each table's file
	made    []string
	done    int // tables
	already int // gathered of the table that it is at
}

func modelOf(k *keep.Keep) *model { return &model{k: k, age: k.Disk().Age()} }

func (m *model) down() bool { return m.k.Disk().Down() || m.k.Disk().Age() != m.age }

func (m *model) stale() bool {
	runs := infosOf(m.k)
	return len(runs) < len(m.under.taken) || !slices.Equal(runs[:len(m.under.taken)], m.under.taken)
}

// tables is m, the chapter's.
func (m *model) tables() int {
	if o := m.k.Seen().Opts; o.Mode == 1 {
		return o.Chunks
	}
	return 1
}

// step is 16.2.
func (m *model) step() (bool, api.Errno) {
	if m.down() {
		return false, api.ErrDown
	}
	if m.under != nil && m.stale() {
		if e := m.forget(); e != api.OK {
			return false, e
		}
	}
	if m.under != nil {
		e := m.piece()
		if e != api.OK && e != api.ErrDown {
			m.forget()
		}
		return false, e
	}
	runs := m.k.Runs()
	if len(runs) == 24 {
		return false, m.begin()
	}
	if _, some := m.k.Waits(); some {
		_, e := m.k.Flush()
		return false, e
	}
	if len(runs) == 0 || len(runs) == 1 && runs[0].Dead() == 0 {
		return true, api.OK
	}
	return false, m.begin()
}

// begin is 16.4.
func (m *model) begin() api.Errno {
	number, e := m.k.Number()
	if e != api.OK {
		return e
	}
	u := &under{taken: infosOf(m.k), number: number, last: alive(m.k.Runs())}
	scratch := disk.New(1 << 28)
	o := m.k.Seen().Opts
	if e := run.Write(scratch, number, o, u.info(), u.last); e != api.OK {
		panic(fmt.Sprint("run.Write: ", int(e)))
	}
	for j := range m.tables() {
		u.files = append(u.files, bytesOf(scratch, rname(number, j)))
	}
	m.under = u
	return api.OK
}

// info is what a manifest will say of the new run.
func (u *under) info() api.RunInfo {
	return api.RunInfo{Number: u.number, Lo: u.taken[0].Lo, Hi: u.taken[len(u.taken)-1].Hi, Count: len(u.last)}
}

// piece is 16.3.
func (m *model) piece() api.Errno {
	u, d, o := m.under, m.k.Disk(), m.k.Seen().Opts
	if u.done < m.tables() {
		if len(u.last)-u.already > 256 {
			u.already += 256
			return api.OK
		}
		if len(u.last) == 0 {
			u.done = m.tables()
			return api.OK
		}
		name := rname(u.number, u.done)
		if e := d.Create(name); e != api.OK {
			return e
		}
		u.made = append(u.made, name)
		if e := d.Append(name, u.files[u.done]); e != api.OK {
			return e
		}
		if e := d.Sync(name); e != api.OK {
			return e
		}
		u.done, u.already = u.done+1, 0
		return api.OK
	}
	var r *run.Run
	if len(u.last) > 0 {
		var e api.Errno
		if r, e = run.Open(d, o, u.info()); e != api.OK {
			return e
		}
	}
	e := m.k.Swap(len(u.taken), r)
	if e == api.OK {
		m.under = nil
	}
	return e
}

// forget is what 16.5 says of that, with a refusal for want of power.
func (m *model) forget() api.Errno {
	u := m.under
	m.under = nil
	for _, name := range u.made {
		if m.k.Disk().Delete(name) == api.ErrDown {
			return api.ErrDown
		}
	}
	return api.OK
}

// drop is 16.6.
func (m *model) drop() api.Errno {
	if m.down() {
		return api.ErrDown
	}
	if m.under == nil {
		return api.OK
	}
	return m.forget()
}

// parts is x / U, rounded up, and 1 at least.
func parts(x int) int {
	n := x / 256
	if x%256 > 0 {
		n++
	}
	if n < 1 {
		return 1
	}
	return n
}

// p is the chapter's P.
func (m *model) p(x int) int { return m.tables() * parts(x) }

// reckoned are the chapter's E and W, and how many words wait.
func (m *model) reckoned() (all, w, words int) {
	for _, info := range infosOf(m.k) {
		all += info.Count
	}
	words, some := m.k.Waits()
	if some {
		w = 1
	}
	return all + words, w, words
}

// left is 16.7.
func (m *model) left() int {
	runs := m.k.Runs()
	_, w, _ := m.reckoned()
	if m.under == nil || m.stale() {
		return m.leftOf(len(runs), len(runs) == 0 || len(runs) == 1 && runs[0].Dead() == 0)
	}
	u := m.under
	c := 0
	for _, info := range u.taken {
		c += info.Count
	}
	n := 1
	if f := m.tables() - u.done; f > 0 {
		n += parts(c-u.already) + (f-1)*parts(c)
	}
	if r := len(runs) - len(u.taken) + 1; w == 1 || r != 1 {
		n += m.leftOf(r, false)
	}
	return n
}

// leftOf is its second point, of r runs.
func (m *model) leftOf(r int, clean bool) int {
	e, w, words := m.reckoned()
	switch {
	case r >= 24:
		return 2 + m.p(e-words) + w*(3+m.p(e))
	case w == 1:
		return 3 + m.p(e)
	case clean:
		return 0
	}
	return 2 + m.p(e)
}

// alive are the last words of all pairs in these runs, but for the dead ones, by code, then id.
func alive(runs []*run.Run) []api.Entry {
	last := map[api.Pair]api.Entry{}
	for _, r := range runs {
		for _, x := range r.All(0) {
			if p := (api.Pair{ID: x.ID, Code: x.Code}); last[p].Seq < x.Seq {
				last[p] = x
			}
		}
	}
	var list []api.Entry
	for _, x := range last {
		if !x.Dead {
			list = append(list, x)
		}
	}
	return byCode(list)
}

func byCode(list []api.Entry) []api.Entry {
	slices.SortFunc(list, func(a, b api.Entry) int {
		if a.Code != b.Code {
			return strings.Compare(a.Code, b.Code)
		}
		return a.ID - b.ID
	})
	return list
}

func infosOf(k *keep.Keep) []api.RunInfo {
	var list []api.RunInfo
	for _, r := range k.Runs() {
		list = append(list, r.Info())
	}
	return list
}

func rname(number, table int) string {
	return "r" + strconv.Itoa(number) + "." + strconv.Itoa(table)
}

// bytesOf is all that a file has.
func bytesOf(d *disk.Disk, name string) string {
	n, _ := d.Size(name)
	b, _ := d.Read(name, 0, n)
	return b
}

// put makes a file of these bytes, in the place of what has the name.
func put(d *disk.Disk, name, b string) {
	d.Delete(name)
	d.Create(name)
	d.Append(name, b)
	d.Sync(name)
}

// seenOf is all that a disk tells of itself.
func seenOf(d *disk.Disk) string {
	var b strings.Builder
	fmt.Fprintf(&b, "%v %d %d %d\n%q\n", d.Down(), d.Used(), d.Writes(), d.Age(), d.Image())
	for _, name := range d.Names() {
		fmt.Fprintf(&b, " %s %q", name, bytesOf(d, name))
	}
	return b.String()
}

// keptOf is all that a keep tells of itself and its pairs.
func keptOf(k *keep.Keep) string {
	words, some := k.Waits()
	tail, ok := k.Tail(k.Seen().Seq)
	return fmt.Sprintf("%d %d %+v %d %v %q %v %s", k.Seq(), k.Synced(), k.Seen(), words, some, fmt.Sprint(tail), ok, pairsOf(k))
}

// pairsOf is what a keep answers about its pairs.
func pairsOf(k *keep.Keep) string {
	var b strings.Builder
	fmt.Fprintf(&b, "%d %d %q", k.Count(), k.Codes(), fmt.Sprint(k.Pairs(0, 1<<30)))
	for j := range max(1, k.Seen().Chunks) + 1 {
		for _, v := range k.Values(j) {
			list, e := k.At(j, v)
			fmt.Fprintf(&b, " %d %d %q %d", j, v, fmt.Sprint(list), e)
		}
	}
	return b.String()
}

// short is a text, not too much of it.
func short(s string) string {
	if len(s) > 1500 {
		return s[:1500] + " .."
	}
	return s
}

// maker makes options, ids, codes and power cuts up.
type maker struct{ *sample.Source }

func from(seed int) maker { return maker{sample.From(seed)} }

// opts are some that go, with chunks of one size or of two.
func (g maker) opts() api.Opts {
	all := []api.Opts{{Width: 64, Chunks: 2, Mode: 1}, {Width: 64, Chunks: 3, Mode: 1}, {Width: 64, Mode: 2}, {Width: 128, Chunks: 7, Mode: 1}, {Width: 192, Mode: 2}, {Width: 64, Chunks: 8, Mode: 1}}
	return all[g.Below(len(all))]
}

// code is one of a few, near one another or not.
func (g maker) code(w int) string {
	b := []byte(strings.Repeat([]string{"\x00", "\xff"}[g.Below(2)], w/8))
	for range g.Below(3) {
		b[[]int{0, w/8 - 1, w / 16}[g.Below(3)]] ^= byte(g.Below(3))
	}
	return string(b)
}

// cuts keep of some files something.
func (g maker) cuts(next int) []api.Cut {
	var list []api.Cut
	some := func(name string) {
		if g.Below(2) == 0 {
			list = append(list, api.Cut{Name: name, Keep: []int{-1, 1, 5, g.Below(60), 999, 1 << 40}[g.Below(6)], Spoil: []byte{0, 0, 1, 0x80, 0xff}[g.Below(5)]})
		}
	}
	some("manifest.new")
	some("manifest")
	for n := max(1, next-6); n <= next+3; n++ {
		some(fmt.Sprint("j", n))
		some(rname(n, 0))
		some(rname(n, 1))
	}
	return list
}
