package inspect_test

import (
	"fmt"
	"math"
	"slices"
	"strings"
	"testing"

	"kindred/api"
	"kindred/disk"
	"kindred/inspect"
	"kindred/journal"
	"kindred/keep"
	"kindred/manifest"
	"kindred/run"
)

var (
	eight = api.Opts{Width: 64, Chunks: 8, Mode: api.Chunked}
	two   = api.Opts{Width: 64, Chunks: 2, Mode: api.Chunked}
	treed = api.Opts{Width: 64, Mode: api.Treed}
)

// z is a code of 64 bits, its first and its last byte this one.
func z(c byte) string {
	b := string([]byte{c})
	return b + strings.Repeat("\x00", 6) + b
}

// number is a number as a code of 64 bits.
func number(n int) string {
	return string([]byte{0, 0, 0, 0, byte(n >> 24), byte(n >> 16), byte(n >> 8), byte(n)})
}

func put(seq, id int, code string) api.Update {
	return api.Update{Seq: seq, Kind: api.Put, ID: id, Code: code}
}

func dead(seq, id int) api.Update { return api.Update{Seq: seq, Kind: api.Dead, ID: id} }

func damage(name string, e api.Errno) api.Damage { return api.Damage{Name: name, Code: e} }

func answers(t *testing.T, what string, got, want api.Errno) {
	t.Helper()
	if got != want {
		t.Fatalf("%s: %d, want %d", what, got, want)
	}
}

// seen is all that a disk tells of itself.
func seen(d *disk.Disk) string {
	var b strings.Builder
	fmt.Fprintln(&b, d.Down(), d.Used(), d.Writes(), d.Age(), d.Image())
	for _, name := range d.Names() {
		fmt.Fprintln(&b, name, bytesOf(d, name))
	}
	return b.String()
}

// lay makes a durable file of these bytes, in the place of what has the name.
func lay(d *disk.Disk, name, b string) {
	d.Delete(name)
	d.Create(name)
	d.Append(name, b)
	d.Sync(name)
}

// turn changes a byte of a file.
func turn(d *disk.Disk, name string, at int, by byte) {
	b := []byte(bytesOf(d, name))
	b[at] ^= by
	lay(d, name, string(b))
}

// copied is a disk with the same files, all bytes durable.
func copied(d *disk.Disk) *disk.Disk {
	c := disk.New(d.Room())
	for _, name := range d.Names() {
		lay(c, name, bytesOf(d, name))
	}
	return c
}

// journalOf is a file of updates, whether they go or not.
func journalOf(t *testing.T, updates ...api.Update) string {
	t.Helper()
	var b strings.Builder
	for _, u := range updates {
		s, e := journal.Write(u)
		answers(t, "5.2: Write", e, api.OK)
		b.WriteString(s)
	}
	return b.String()
}

// both is a disk and another one like it, on which the second writing does what is done to the first.
type both struct {
	t        *testing.T
	where    string
	d, other *disk.Disk
}

// bothOf are two disks with the durable bytes of one.
func bothOf(t *testing.T, where string, d *disk.Disk) *both {
	t.Helper()
	b := &both{t: t, where: where}
	b.d, _ = disk.Open(d.Image(), d.Room())
	b.other, _ = disk.Open(d.Image(), d.Room())
	return b
}

// disks does something to both.
func (b *both) disks(do func(d *disk.Disk)) {
	do(b.d)
	do(b.other)
}

// agree: the two disks cannot be told from each other.
func (b *both) agree(what string) {
	b.t.Helper()
	if seen(b.d) != seen(b.other) {
		b.t.Fatalf("23.3: %s: %s: the disk has %q, %d writes, want %q, %d writes", b.where, what, b.d.Names(), b.d.Writes(), b.other.Names(), b.other.Writes())
	}
}

// check is what both tell: nothing is written, each name is one of ours, and the store opens just if it should.
func (b *both) check() ([]api.Damage, api.Errno) {
	b.t.Helper()
	was := seen(b.d)
	list, e := inspect.Check(b.d)
	want, f := modelCheck(b.other)
	if !slices.Equal(list, want) || e != f {
		b.t.Fatalf("23.1: %s: Check: %v, %d, want %v, %d", b.where, list, e, want, f)
	}
	if seen(b.d) != was {
		b.t.Fatalf("23.1: %s: Check has written", b.where)
	}
	if e != api.OK {
		return list, e
	}
	for _, x := range list {
		kind, _, _ := manifest.Kind(x.Name)
		if kind == api.NameOther || isThere(b.d, x.Name) == (x.Code == api.ErrNone) {
			b.t.Fatalf("23.8: %s: %v is told, the files are %q", b.where, x, b.d.Names())
		}
	}
	if _, e := keep.Open(copied(b.d)); (e == api.OK) != isOpen(list) {
		b.t.Fatalf("23.2: %s: damages %v, Open answers %d", b.where, list, e)
	}
	return list, e
}

// repair is what both tell and do. Behind it the store has no damage and what was saved, and a second Repair finds nothing to do.
func (b *both) repair() ([]api.Damage, api.Errno) {
	b.t.Helper()
	var want []api.Pair
	if x, e := modelLook(b.other); e == api.OK {
		want = x.saved
	}
	list, e := inspect.Repair(b.d)
	told, f := modelRepair(b.other)
	if !slices.Equal(list, told) || e != f {
		b.t.Fatalf("23.3: %s: Repair: %v, %d, want %v, %d", b.where, list, e, told, f)
	}
	b.agree("Repair")
	if e != api.OK {
		return list, e
	}
	b.whole(want)
	return list, e
}

// whole: the store has no damages, opens, and has these pairs; a second Repair does nothing.
func (b *both) whole(want []api.Pair) {
	b.t.Helper()
	was := seen(b.d)
	for what, do := range map[string]func(*disk.Disk) ([]api.Damage, api.Errno){"Check": inspect.Check, "a second Repair": inspect.Repair} {
		if list, e := do(b.d); len(list) != 0 || e != api.OK || seen(b.d) != was {
			b.t.Fatalf("23.5: %s: %s: %v, %d; it has written: %v", b.where, what, list, e, seen(b.d) != was)
		}
	}
	c := copied(b.d)
	writes := c.Writes()
	k, e := keep.Open(c)
	if e != api.OK || c.Writes() != writes {
		b.t.Fatalf("23.5: %s: Open: %d, %d writes", b.where, e, c.Writes()-writes)
	}
	if got := k.Pairs(0, math.MaxInt); !slices.Equal(got, want) {
		b.t.Fatalf("23.5: %s: there are %s, want %s", b.where, short(got), short(want))
	}
}

// short are pairs, not too many of them.
func short(pairs []api.Pair) string {
	s := fmt.Sprintf("%d pairs:", len(pairs))
	for _, p := range pairs[:min(20, len(pairs))] {
		s += fmt.Sprintf(" %d %x", p.ID, p.Code)
	}
	return s
}

// pairsOf are those that a disk's store opens with.
func pairsOf(t *testing.T, d *disk.Disk) []api.Pair {
	t.Helper()
	k, e := keep.Open(copied(d))
	answers(t, "15.5: Open", e, api.OK)
	return k.Pairs(0, math.MaxInt)
}

// idsOf are their ids.
func idsOf(pairs []api.Pair) []int {
	list := []int{}
	for _, p := range pairs {
		list = append(list, p.ID)
	}
	return list
}

// store is a disk with two runs, dead words in the second one, and a journal of three updates, all durable.
func store(t *testing.T, o api.Opts) *disk.Disk {
	t.Helper()
	d := disk.New(1 << 20)
	k, e := keep.Create(d, o)
	answers(t, "15.4: Create", e, api.OK)
	code := func(c byte) string { return strings.Repeat(z(c), o.Width/64) }
	for id := range 6 {
		answers(t, "15.7: Insert", k.Insert(id, code(byte(id/2))), api.OK)
	}
	flush(t, k)
	answers(t, "15.8: Delete", k.Delete(2), api.OK)
	answers(t, "15.7: Insert", k.Insert(2, code(9)), api.OK)
	answers(t, "15.8: Delete", k.Delete(3), api.OK)
	answers(t, "15.7: Insert", k.Insert(1<<48, code(255)), api.OK)
	flush(t, k)
	answers(t, "15.7: Insert", k.Insert(3, code(3)), api.OK)
	answers(t, "15.8: Delete", k.Delete(0), api.OK)
	answers(t, "15.7: Insert", k.Insert(300, code(3)), api.OK)
	answers(t, "15.9: Sync", k.Sync(), api.OK)
	return d
}

func flush(t *testing.T, k *keep.Keep) {
	t.Helper()
	some, e := k.Flush()
	if !some {
		t.Fatalf("15.10: nothing was flushed")
	}
	answers(t, "15.10: Flush", e, api.OK)
}

// forged is a store put together by hand: runs of ten numbers each, whatever they say, and a journal's bytes.
func forged(t *testing.T, o api.Opts, runs [][]api.Entry, journal string) *disk.Disk {
	t.Helper()
	d := disk.New(1 << 20)
	m := api.Manifest{Opts: o, Next: 50, Journal: 40}
	for i, list := range runs {
		info := api.RunInfo{Number: i + 1, Lo: 10 * i, Hi: 10*i + 10, Count: len(list)}
		answers(t, "14.2: Write", run.Write(d, info.Number, o, info, byCode(slices.Clone(list))), api.OK)
		m.Seq, m.Runs = info.Hi, append(m.Runs, info)
	}
	lay(d, "j40", journal)
	answers(t, "8.5: Store", manifest.Store(d, m), api.OK)
	return d
}
