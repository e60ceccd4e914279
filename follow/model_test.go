package follow_test

import (
	"cmp"
	"fmt"
	"maps"
	"math"
	"slices"
	"strings"
	"testing"

	"kindred/api"
	"kindred/compact"
	"kindred/disk"
	"kindred/follow"
	"kindred/keep"
)

var (
	eight = api.Opts{Width: 64, Chunks: 8, Mode: api.Chunked}
	two   = api.Opts{Width: 64, Chunks: 2, Mode: api.Chunked}
	treed = api.Opts{Width: 64, Mode: api.Treed}
)

// z is a code of 64 bits, its last byte this one.
func z(last byte) string { return strings.Repeat("\x00", 7) + string([]byte{last}) }

// number is a number as a code of 64 bits.
func number(n int) string {
	return string([]byte{0, 0, 0, 0, byte(n >> 24), byte(n >> 16), byte(n >> 8), byte(n)})
}

func put(seq, id int, code string) api.Update {
	return api.Update{Seq: seq, Kind: api.Put, ID: id, Code: code}
}

func dead(seq, id int) api.Update { return api.Update{Seq: seq, Kind: api.Dead, ID: id} }

// tail is a batch of updates behind the at-th.
func tail(at int, updates ...api.Update) api.Batch {
	return api.Batch{Kind: 1, At: at, Seq: at + len(updates), Updates: updates}
}

// piece is a batch of pairs, not the last one; last is.
func piece(at, seq int, pairs ...api.Pair) api.Batch {
	return api.Batch{Kind: 2, At: at, Seq: seq, Pairs: pairs}
}

func last(at, seq int, pairs ...api.Pair) api.Batch {
	b := piece(at, seq, pairs...)
	b.Last = true
	return b
}

func pair(id int, code string) api.Pair { return api.Pair{ID: id, Code: code} }

func answers(t *testing.T, what string, got, want api.Errno) {
	t.Helper()
	if got != want {
		t.Fatalf("%s: %d, want %d", what, got, want)
	}
}

// seen is all that a disk tells of itself.
func seen(d *disk.Disk) string {
	var b strings.Builder
	fmt.Fprintln(&b, d.Down(), d.Used(), d.Writes(), d.Age(), d.Image())
	for _, name := range d.Names() {
		n, _ := d.Size(name)
		x, _ := d.Read(name, 0, n)
		fmt.Fprintln(&b, name, x)
	}
	return b.String()
}

// copied is another batch of the same, with spare room behind its lists.
func copied(b api.Batch) api.Batch {
	if b.Updates != nil {
		b.Updates = append(append(make([]api.Update, 0, len(b.Updates)+2), b.Updates...), dead(-7, -7))[:len(b.Updates)]
	}
	if b.Pairs != nil {
		b.Pairs = append(append(make([]api.Pair, 0, len(b.Pairs)+2), b.Pairs...), pair(-7, "spare"))[:len(b.Pairs)]
	}
	return b
}

// alike: two batches say the same, their spare room too.
func alike(a, b api.Batch) bool {
	return a.Kind == b.Kind && a.At == b.At && a.Seq == b.Seq && a.Last == b.Last && slices.Equal(a.Updates[:cap(a.Updates)], b.Updates[:cap(b.Updates)]) && slices.Equal(a.Pairs[:cap(a.Pairs)], b.Pairs[:cap(b.Pairs)])
}

// same: two batches say the same.
func same(a, b api.Batch) bool {
	return a.Kind == b.Kind && a.At == b.At && a.Seq == b.Seq && a.Last == b.Last && slices.Equal(a.Updates, b.Updates) && slices.Equal(a.Pairs, b.Pairs)
}

// short is a batch, not too much of it.
func short(b api.Batch) string {
	s := fmt.Sprintf("{kind %d, at %d, seq %d, last %v, %d updates, %d pairs", b.Kind, b.At, b.Seq, b.Last, len(b.Updates), len(b.Pairs))
	for _, u := range b.Updates[:min(9, len(b.Updates))] {
		s += fmt.Sprintf(" %d:%d:%d:%x", u.Seq, u.Kind, u.ID, u.Code)
	}
	for _, p := range b.Pairs[:min(9, len(b.Pairs))] {
		s += fmt.Sprintf(" %d:%x", p.ID, p.Code)
	}
	return s + "}"
}

// looked is a plain look: the pairs as hits for q, so many at most.
func looked(pairs map[int]string, q string, k int) []api.Hit {
	hits := make([]api.Hit, 0, len(pairs))
	for id, code := range pairs {
		d := 0
		for i := range len(q) {
			for x := q[i] ^ code[i]; x != 0; x &= x - 1 {
				d++
			}
		}
		hits = append(hits, api.Hit{Dist: d, ID: id, Code: code})
	}
	slices.SortFunc(hits, func(x, y api.Hit) int {
		return cmp.Or(cmp.Compare(x.Dist, y.Dist), cmp.Compare(x.ID, y.ID))
	})
	return hits[:min(k, len(hits))]
}

// played is what updates make of pairs; not, if they can't be made.
func played(pairs map[int]string, width int, updates []api.Update) (map[int]string, bool) {
	m := maps.Clone(pairs)
	if m == nil {
		m = map[int]string{}
	}
	for _, u := range updates {
		_, lives := m[u.ID]
		switch {
		case u.ID < 0 || u.ID > 1<<48:
			return nil, false
		case u.Kind == 1 && !lives && len(u.Code) == width/8 && len(m) < 1<<20:
			m[u.ID] = u.Code
		case u.Kind == 2 && lives && u.Code == "":
			delete(m, u.ID)
		default:
			return nil, false
		}
	}
	return m, true
}

// twin is a second writing of a follower: what it keeps stands in a keep, on which just the chapter's calls are made.
type twin struct {
	k        *keep.Keep
	c        *compact.Compactor
	pairs    map[int]string
	gathered []api.Pair
	asOf     int
	was      *[3]int // what it told ahead of the call that gave it up
}

func twinOpen(d *disk.Disk, o api.Opts) (*twin, api.Errno) {
	k, e := keep.Open(d)
	switch {
	case e == api.ErrNone:
		if k, e = keep.Create(d, o); e != api.OK {
			return nil, e
		}
	case e != api.OK:
		return nil, e
	case k.Seen().Opts != o:
		return nil, api.ErrTaken
	}
	m := &twin{k: k, c: compact.New(k), pairs: map[int]string{}}
	m.read()
	return m, api.OK
}

// read takes the pairs over from the keep.
func (m *twin) read() {
	clear(m.pairs)
	for _, p := range m.k.Pairs(0, math.MaxInt) {
		m.pairs[p.ID] = p.Code
	}
}

// tells are number, from and count.
func (m *twin) tells() [3]int {
	if m.was != nil {
		return *m.was
	}
	from := 0
	if n := len(m.gathered); n > 0 {
		from = m.gathered[n-1].ID + 1
	}
	return [3]int{m.k.Seq(), from, m.k.Count()}
}

func (m *twin) down() bool {
	_, e := m.k.Get(0)
	return e == api.ErrDown
}

func (m *twin) accept(b api.Batch) api.Errno {
	was := m.tells()
	e := m.accepted(b)
	if e == api.ErrDown && m.was == nil {
		m.was = &was
	}
	if e != api.ErrDown {
		m.read()
	}
	return e
}

func (m *twin) accepted(b api.Batch) api.Errno {
	switch {
	case m.down():
		return api.ErrDown
	case !isBatch(b):
		return api.ErrBatch
	case b.Kind == 1:
		return m.updates(b)
	}
	return m.piece(b)
}

// isBatch (22.1), written once more.
func isBatch(b api.Batch) bool {
	ok := b.At >= 0 && b.At <= 1<<60 && b.Seq >= 0 && b.Seq <= 1<<60 && len(b.Updates) <= 1024 && len(b.Pairs) <= 1024
	switch {
	case !ok:
	case b.Kind == 1:
		n := b.At
		for _, u := range b.Updates {
			n++
			ok = ok && u.Seq == n
		}
		return ok && b.Seq == n && len(b.Pairs) == 0 && !b.Last
	case b.Kind == 2:
		least := b.At
		for _, p := range b.Pairs {
			if p.ID < least {
				return false
			}
			if least = p.ID + 1; least < 0 {
				least = math.MaxInt
			}
		}
		return len(b.Updates) == 0 && (b.Last || len(b.Pairs) != 0)
	}
	return false
}

func (m *twin) updates(b api.Batch) api.Errno {
	if b.At != m.k.Seq() {
		return api.ErrApart
	}
	if _, ok := played(m.pairs, m.k.Seen().Width, b.Updates); !ok {
		return api.ErrDiverged
	}
	if len(b.Updates) == 0 {
		return api.OK
	}
	m.gathered, m.asOf = nil, 0
	before, refusal := m.k.Seq(), api.OK
	for _, u := range b.Updates {
		if u.Kind == 1 {
			refusal = m.k.Insert(u.ID, u.Code)
		} else {
			refusal = m.k.Delete(u.ID)
		}
		if refusal != api.OK {
			break
		}
	}
	if refusal == api.ErrDown {
		return api.ErrDown
	}
	if m.k.Seq() > before {
		if e := m.k.Sync(); e != api.OK {
			return e
		}
	}
	if refusal != api.OK {
		return refusal
	}
	return m.settle()
}

func (m *twin) piece(b api.Batch) api.Errno {
	if b.Seq <= m.k.Seq() {
		return api.ErrApart
	}
	if len(m.gathered) == 0 || m.asOf != b.Seq {
		m.gathered, m.asOf = nil, 0
		if b.At != 0 {
			return api.ErrApart
		}
	} else if b.At != m.gathered[len(m.gathered)-1].ID+1 {
		return api.ErrApart
	}
	all := slices.Concat(m.gathered, b.Pairs)
	m.gathered, m.asOf = nil, 0
	if len(all) > 1<<20 {
		return api.ErrMany
	}
	if !b.Last {
		m.gathered, m.asOf = all, b.Seq
		return api.OK
	}
	if e := m.k.Reset(b.Seq, all); e == api.ErrSeq {
		return api.ErrBatch
	} else if e != api.OK {
		return e
	}
	return m.settle()
}

func (m *twin) settle() api.Errno {
	if n, _ := m.k.Waits(); n <= 1<<15 {
		return api.OK
	}
	for {
		done, e := m.c.Step()
		if e == api.ErrDown {
			return e
		}
		if done || e != api.OK {
			return api.OK
		}
	}
}

// both is a follower and its twin, each over a disk of its own; every batch is sent to both, and answers and disks are held against each other.
type both struct {
	t     *testing.T
	where string
	o     api.Opts
	d     *disk.Disk
	other *disk.Disk
	f     *follow.Follower
	m     *twin
}

// bothOn begins with the files of an image (none: "D").
func bothOn(t *testing.T, where, image string, capacity int, o api.Opts) *both {
	t.Helper()
	b := &both{t: t, where: where, o: o}
	for _, d := range []**disk.Disk{&b.d, &b.other} {
		var e api.Errno
		*d, e = disk.Open(image, capacity)
		answers(t, "4.3: Open", e, api.OK)
	}
	return b
}

// started is open already.
func started(t *testing.T, where string, capacity int, o api.Opts) *both {
	t.Helper()
	b := bothOn(t, where, "D", capacity, o)
	answers(t, "22.3: Open", b.open(), api.OK)
	return b
}

func (b *both) disks(do func(d *disk.Disk)) {
	do(b.d)
	do(b.other)
}

func (b *both) open() api.Errno {
	b.t.Helper()
	f, got := follow.Open(b.d, b.o)
	m, want := twinOpen(b.other, b.o)
	if got != want || (f != nil) != (got == api.OK) {
		b.t.Fatalf("22.3: %s: Open: %d, want %d; a follower: %v", b.where, got, want, f != nil)
	}
	if got == api.OK {
		b.f, b.m = f, m
	}
	b.agree("Open")
	return got
}

func (b *both) accept(batch api.Batch) api.Errno {
	b.t.Helper()
	what := "Accept" + short(batch)
	given := copied(batch)
	left := copied(batch)
	got, want := b.f.Accept(given), b.m.accept(batch)
	if got != want {
		b.t.Fatalf("22.6 to 22.9: %s: %s: %d, want %d", b.where, what, got, want)
	}
	if !alike(given, left) {
		b.t.Fatalf("22.6: %s: %s: the batch was changed", b.where, what)
	}
	for i := range given.Updates[:cap(given.Updates)] {
		given.Updates[:cap(given.Updates)][i] = put(77, 77, "another")
	}
	for i := range given.Pairs[:cap(given.Pairs)] {
		given.Pairs[:cap(given.Pairs)][i] = pair(77, "another")
	}
	b.agree(what)
	return got
}

// must is a batch that is to be answered so.
func (b *both) must(want api.Errno, batch api.Batch) {
	b.t.Helper()
	answers(b.t, fmt.Sprintf("%s: Accept%s", b.where, short(batch)), b.accept(batch), want)
}

// agree: the follower tells what the twin does, and their disks are alike.
func (b *both) agree(what string) {
	b.t.Helper()
	if x, y := seen(b.d), seen(b.other); x != y {
		b.t.Fatalf("22.7 to 22.9: %s: %s: the disk is\n%.2000q\nwant\n%.2000q", b.where, what, x, y)
	}
	if b.f == nil {
		return
	}
	if got, want := b.figures(), b.m.tells(); got != want {
		b.t.Fatalf("22.4, 22.5: %s: %s: number, from, count: %v, want %v", b.where, what, got, want)
	}
	b.agreeOnPairs(what)
}

func (b *both) figures() [3]int { return [3]int{b.f.Number(), b.f.From(), b.f.Count()} }

func (b *both) agreeOnPairs(what string) {
	b.t.Helper()
	if b.m.down() {
		b.gone(what)
		return
	}
	for id := range 30 {
		code, e := b.f.Get(id)
		want, lives := b.m.pairs[id]
		if code != want || (e == api.OK) != lives || !lives && e != api.ErrGone {
			b.t.Fatalf("22.4: %s: %s: Get(%d): %x, %d, want %x", b.where, what, id, code, e, want)
		}
	}
	if len(b.m.pairs) > 100 || b.m.k.Seen().Width != 64 {
		return // what is great is looked at elsewhere
	}
	for _, q := range []string{z(0), z(3), strings.Repeat("\xff", 8)} {
		for _, k := range []int{0, 1, 3, 4096} {
			hits, e := b.f.TopK(q, k)
			if want := looked(b.m.pairs, q, k); e != api.OK || !slices.Equal(hits, want) {
				b.t.Fatalf("22.4: %s: %s: TopK(%x, %d): %x, %d, want %x", b.where, what, q, k, hits, e, want)
			}
		}
	}
}

// gone: whatever is asked, the answer is ErrDown, and nothing is done.
func (b *both) gone(what string) {
	b.t.Helper()
	was, told := seen(b.d), b.figures()
	for range 2 {
		code, e := b.f.Get(-1)
		hits, f := b.f.TopK("x", -1)
		n := b.f.Number()
		list := []api.Errno{e, f, b.f.Accept(api.Batch{}), b.f.Accept(tail(n)), b.f.Accept(tail(n, put(n+1, 20, z(1)))), b.f.Accept(last(0, n+1)), b.f.Accept(piece(b.f.From(), n+1, pair(1<<47, z(1))))}
		for i, e := range list {
			if e != api.ErrDown || code != "" || hits != nil {
				b.t.Fatalf("22.4, 22.6: %s: %s: without power call %d answers %d", b.where, what, i, e)
			}
		}
	}
	if seen(b.d) != was || b.figures() != told {
		b.t.Fatalf("22.4: %s: %s: a call without power has done something: %v, was %v", b.where, what, b.figures(), told)
	}
}
