package follow_test

import (
	"fmt"
	"testing"

	"kindred/api"
	"kindred/disk"
	"kindred/keep"
)

// kept are what is left of the files' unsynced bytes.
func kept() [][]api.Cut {
	list := [][]api.Cut{nil}
	for _, c := range []api.Cut{{Keep: 1}, {Keep: 33}, {Keep: 9999, Spoil: 1}, {Keep: 1 << 20}} {
		var cuts []api.Cut
		for _, name := range names() {
			cuts = append(cuts, api.Cut{Name: name, Keep: c.Keep, Spoil: c.Spoil})
		}
		list = append(list, cuts)
	}
	return list
}

// scene is a follower up to the batch in which the power goes.
type scene struct {
	image    string
	capacity int
	before   []api.Batch
	batch    api.Batch
}

// small are scenes with few pairs.
func small() map[string]scene {
	two := tail(0, puts(0, 0, 2)...)
	some := piece(0, 9, pair(3, z(1)), pair(5, z(2)))
	return map[string]scene{
		"updates":               {"D", 1 << 20, []api.Batch{two}, tail(2, put(3, 7, z(1)), dead(4, 0), put(5, 0, z(3)))},
		"updates, all gathered": {"D", 1 << 20, []api.Batch{two, some}, tail(2, put(3, 7, z(1)), dead(4, 0), put(5, 0, z(3)))},
		"the last piece":        {"D", 1 << 20, []api.Batch{two, some}, last(6, 9, pair(9, z(1)))},
		"no pairs":              {"D", 1 << 20, []api.Batch{two}, last(0, 9)},
		"a first batch":         {"D", 1 << 20, nil, tail(0, puts(0, 0, 3)...)},
		"a second reset":        {"D", 1 << 20, []api.Batch{two, some, last(6, 9)}, last(0, 12, pair(0, z(1)))},
		"no room for updates":   {"D", 230, nil, tail(0, puts(0, 0, 20)...)},
		"no room for pairs":     {"D", 330, []api.Batch{two, some}, last(6, 9, pair(9, z(1)))},
	}
}

// cutOff is how the power goes: with a step of names done or not, and what is left.
type cutOff struct {
	done bool
	cuts []api.Cut
}

// TestPowerCuts: the power goes at every write of an Accept; what is told behind it is what was so ahead of it, and what is opened again never falls.
func TestPowerCuts(t *testing.T) {
	var all []cutOff
	for _, cuts := range kept() {
		all = append(all, cutOff{false, cuts}, cutOff{true, cuts})
	}
	for _, o := range []api.Opts{two, treed} {
		for name, s := range small() {
			everyCut(t, fmt.Sprintf("%s, mode %d", name, o.Mode), s, o, func(n int) []cutOff { return all }, (*both).goesOn)
		}
	}
}

// everyCut lets the power go at each write of a scene's last batch, in these ways; then the follower goes on.
func everyCut(t *testing.T, where string, s scene, o api.Opts, ways func(n int) []cutOff, then func(b *both, batch api.Batch)) {
	t.Helper()
	cut := true
	for n := 1; cut; n++ {
		for i, way := range ways(n) {
			b := bothOn(t, fmt.Sprintf("%s, cut at write %d, done %v, way %d", where, n, way.done, i), s.image, s.capacity, o)
			answers(t, "22.3: Open", b.open(), api.OK)
			for _, x := range s.before {
				b.must(api.OK, x)
			}
			cut = b.cutAt(n, way, s.batch)
			then(b, s.batch)
		}
		if n > 200 {
			t.Fatalf("%s: there is no end of writes", where)
		}
	}
}

// cutAt lets the power go in an Accept, and opens behind that: has it gone?
func (b *both) cutAt(n int, way cutOff, batch api.Batch) bool {
	b.t.Helper()
	was := b.figures()
	b.disks(func(d *disk.Disk) { d.Arm(n, way.done) })
	e := b.accept(batch)
	cut := b.d.Down()
	if e == api.ErrDown && (!cut || b.figures() != was) {
		b.t.Fatalf("22.4: %s: given up it tells %v, was %v", b.where, b.figures(), was)
	}
	told := b.figures()
	b.disks(func(d *disk.Disk) { d.Crash(way.cuts) })
	b.agree("a power cut")
	if b.figures() != told {
		b.t.Fatalf("22.4: %s: behind the cut it tells %v, was %v", b.where, b.figures(), told)
	}
	answers(b.t, "22.3: Open", b.open(), api.OK)
	least := was[0]
	if e == api.OK {
		least = told[0]
	}
	if now := b.f.Number(); now < least || now > batch.Seq {
		b.t.Fatalf("22.10: %s: behind an Open it is at %d, was at %d", b.where, now, least)
	}
	return cut
}

// goesOn: the follower comes to where the batch would have led it, if there is room.
func (b *both) goesOn(batch api.Batch) {
	b.t.Helper()
	n := b.f.Number()
	switch {
	case n == batch.Seq || b.d.Room() < 1000:
	case batch.Kind == 1:
		b.must(api.OK, tail(n, batch.Updates[n-batch.At:]...))
	default:
		b.must(api.OK, last(0, batch.Seq, batch.Pairs...))
	}
	if b.d.Room() >= 1000 && b.f.Number() != batch.Seq {
		b.t.Fatalf("22.11: %s: it is at %d, want %d", b.where, b.f.Number(), batch.Seq)
	}
	was := seen(b.d)
	answers(b.t, "22.3: Open", b.open(), api.OK)
	if seen(b.d) != was {
		b.t.Fatalf("W4: %s: a second Open has written", b.where)
	}
}

// TestOpenCut: the power goes at every write of an Open, of an empty disk and of one with files of nobody.
func TestOpenCut(t *testing.T) {
	for _, o := range []api.Opts{two, treed} {
		for _, fresh := range []bool{true, false} {
			cut := true
			for n := 1; cut; n++ {
				for _, done := range []bool{false, true} {
					for i, cuts := range kept() {
						b := bothOn(t, fmt.Sprintf("Open of mode %d, fresh %v, cut at write %d, done %v, left %d", o.Mode, fresh, n, done, i), "D", 1<<20, o)
						if !fresh {
							answers(t, "22.3: Open", b.open(), api.OK)
							b.must(api.OK, tail(0, puts(0, 0, 2)...))
							b.disks(func(d *disk.Disk) { d.Append("j1", "half a frame") })
						}
						b.disks(func(d *disk.Disk) {
							for _, name := range []string{"j99", "r77.0", "manifest.new"} {
								d.Create(name)
								d.Append(name, "left over")
							}
							d.Arm(n, done)
						})
						e := b.open()
						if cut = b.d.Down(); cut != (e == api.ErrDown) {
							t.Fatalf("22.3: %s: %d", b.where, e)
						}
						b.disks(func(d *disk.Disk) { d.Crash(cuts) })
						answers(t, "22.3: Open", b.open(), api.OK)
						if want := map[bool]int{false: 2}[fresh]; b.f.Number() != want {
							t.Fatalf("22.10: %s: it is at %d, want %d", b.where, b.f.Number(), want)
						}
						b.goesOn(last(0, 9, pair(1, z(1))))
					}
				}
			}
		}
	}
}

// TestGivenUpByAge: a disk that was crashed between two calls is no longer the follower's.
func TestGivenUpByAge(t *testing.T) {
	for _, asked := range []bool{false, true} {
		b := started(t, fmt.Sprint("asked ", asked), 1<<20, two)
		b.f.Accept(tail(0, puts(0, 0, 3)...))
		b.f.Accept(piece(0, 9, pair(3, z(1))))
		if asked && b.figures() != [3]int{3, 4, 3} {
			t.Fatalf("22.4: %v", b.figures())
		}
		b.d.Crash(nil)
		if b.figures() != [3]int{3, 4, 3} {
			t.Errorf("22.4: given up: %v", b.figures())
		}
		b.gone("another age")
	}
}

// words is an image of a store in which words about so many pairs wait: pairs that are there, or were and are dead in a second run.
func words(t *testing.T, o api.Opts, n int, deaths bool) string {
	t.Helper()
	d := disk.New(1 << 26)
	k, e := keep.Create(d, o)
	answers(t, "15.4: Create", e, api.OK)
	if deaths {
		answers(t, "15.14: Reset", k.Reset(1<<17, pairsOf(0, n)), api.OK)
	}
	for id := range n {
		if deaths {
			e = k.Delete(id)
		} else {
			e = k.Insert(id, number(id))
		}
		answers(t, "15.7, 15.8: an update", e, api.OK)
	}
	answers(t, "15.9: Sync", k.Sync(), api.OK)
	return d.Image()
}

// TestPowerCutsOfCompaction (22.9): the power goes while the follower compacts: the batch is durable, but the answer is ErrDown, unless it was a refusal that was let go.
func TestPowerCutsOfCompaction(t *testing.T) {
	const half = 1 << 15
	at := 1<<17 + half
	fresh, deaths := words(t, treed, half, false), words(t, treed, half, true)
	for name, s := range map[string]scene{
		"a flush":              {fresh, 1 << 24, nil, tail(half, put(half+1, half, number(half)))},
		"a flush without room": {fresh, len(fresh) + 300, nil, tail(half, put(half+1, half, number(half)))},
		"a merge":              {deaths, 1 << 24, nil, tail(at, put(at+1, half, number(half)))},
	} {
		t.Run(name, func(t *testing.T) {
			t.Parallel()
			// A look at so many words takes long: one way for each write.
			ways := func(n int) []cutOff { return []cutOff{{n%2 == 0, kept()[n%3]}} }
			everyCut(t, name, s, treed, ways, func(b *both, batch api.Batch) {
				if n := b.f.Number(); n < batch.At || b.f.Count() != len(b.m.pairs) {
					t.Fatalf("22.10: %s: it is at %d with %d pairs", b.where, n, b.f.Count())
				}
			})
		})
	}
}
