package inspect_test

import (
	"fmt"
	"slices"
	"testing"

	"kindred/api"
	"kindred/disk"
	"kindred/inspect"
	"kindred/keep"
	"kindred/manifest"
	"kindred/run"
)

// crowd is a store of one run with so many pairs, and a journal.
func crowd(t *testing.T, o api.Opts, count int, updates ...api.Update) *disk.Disk {
	t.Helper()
	d := disk.New(1 << 28)
	list := make([]api.Entry, count)
	for id := range list {
		list[id] = api.Entry{Code: number(id), ID: id, Seq: id + 1}
	}
	info := api.RunInfo{Number: 2, Hi: count, Count: count}
	answers(t, "14.2: Write", run.Write(d, 2, o, info, list), api.OK)
	lay(d, "j1", journalOf(t, updates...))
	answers(t, "8.5: Store", manifest.Store(d, api.Manifest{Opts: o, Seq: count, Next: 3, Journal: 1, Runs: []api.RunInfo{info}}), api.OK)
	return d
}

// TestMostPairs: MaxPairs live, and one more, by the run or by the journal; the first ones are saved.
func TestMostPairs(t *testing.T) {
	const most = 1 << 20
	for name, c := range map[string]struct {
		count   int
		updates []api.Update
		want    []api.Damage
		first   int // the first id that is saved
		last    int
	}{
		"one more":                 {most + 1, nil, []api.Damage{damage("manifest", api.ErrApart)}, 0, most - 1},
		"one more by the journal":  {most, []api.Update{put(most+1, most, number(0))}, []api.Damage{damage("j1", api.ErrApart)}, 0, most - 1},
		"one more for one less":    {most, []api.Update{dead(most+1, 0), put(most+2, most, number(0))}, nil, 1, most},
		"too many, and not enough": {most + 2, []api.Update{dead(most+3, 0)}, []api.Damage{damage("manifest", api.ErrApart)}, 1, most},
	} {
		t.Run(name, func(t *testing.T) {
			t.Parallel()
			d := crowd(t, treed, c.count, c.updates...)
			if list, e := inspect.Check(d); !slices.Equal(list, c.want) || e != api.OK {
				t.Errorf("23.1: %v, %d", list, e)
			}
			if list, e := inspect.Repair(d); !slices.Equal(list, c.want) || e != api.OK {
				t.Fatalf("23.3: %v, %d", list, e)
			}
			k, e := keep.Open(d)
			answers(t, "23.5: Open", e, api.OK)
			if k.Count() != most || k.Seq() != c.count+len(c.updates) {
				t.Errorf("23.4: %d pairs, S is %d", k.Count(), k.Seq())
			}
			for _, id := range []int{c.first, c.last} {
				if _, e := k.Get(id); e != api.OK {
					t.Errorf("23.4: %d: %d", id, e)
				}
			}
		})
	}
}

// TestMostWords: a journal that speaks of MaxDelta pairs, and of one more.
func TestMostWords(t *testing.T) {
	const most = 1 << 16
	puts := make([]api.Update, 0, most+2)
	puts = append(puts, dead(3, 0)) // of a pair that the run has
	for n := 1; n < most; n++ {
		puts = append(puts, put(3+n, 10+n, number(n)))
	}
	for name, c := range map[string]struct {
		more []api.Update
		want api.Errno
	}{
		"as many as can be":      {nil, api.OK},
		"a pair again":           {[]api.Update{dead(most+3, 11), put(most+4, 11, number(1))}, api.OK},
		"the run's pair again":   {[]api.Update{put(most+3, 0, number(0))}, api.OK},
		"one more":               {[]api.Update{put(most+3, 9, number(9))}, api.ErrApart},
		"another code of an id":  {[]api.Update{dead(most+3, 11), put(most+4, 11, number(2))}, api.ErrApart},
		"another run's pair":     {[]api.Update{dead(most+3, 1)}, api.ErrApart},
		"the run's, another one": {[]api.Update{put(most+3, 0, number(7))}, api.ErrApart},
	} {
		t.Run(name, func(t *testing.T) {
			t.Parallel()
			b := bothOf(t, name, crowd(t, treed, 2, append(slices.Clone(puts), c.more...)...))
			var want []api.Damage
			if c.want != api.OK {
				want = append(want, damage("j1", c.want))
			}
			if list, e := b.check(); !slices.Equal(list, want) || e != api.OK {
				t.Errorf("23.1: %v, %d, want %v", list, e, want)
			}
			b.repair()
		})
	}
}

// TestWorn: a manifest at the end of the files' numbers.
func TestWorn(t *testing.T) {
	const end = 1 << 40
	for _, next := range []int{end - 3, end - 2, end - 1, end} {
		d := forged(t, two, [][]api.Entry{{word(1, 1, 1)}}, "")
		m, _ := manifest.Load(d)
		m.Next = next
		answers(t, "8.5: Store", manifest.Store(d, m), api.OK)
		lay(d, "j77", "left over")
		// What an opening sets right wants no numbers.
		b := bothOf(t, fmt.Sprint("sound, Next ", next), d)
		if _, e := b.repair(); e != api.OK {
			t.Errorf("23.3: %s: %d", b.where, e)
		}
		b = bothOf(t, fmt.Sprint("Next ", next), d)
		b.disks(func(d *disk.Disk) { d.Delete("r1.1") })
		b.check()
		was, want := seen(b.d), api.OK
		if next > end-2 {
			want = api.ErrWorn
		}
		if _, e := b.repair(); e != want || e != api.OK && seen(b.d) != was {
			t.Errorf("23.3: %s: %d, want %d; something is changed: %v", b.where, e, want, seen(b.d) != was)
		}
	}
}

// TestLastNumbers: a store at the end of the updates' numbers.
func TestLastNumbers(t *testing.T) {
	const end = 1 << 60
	for _, o := range []api.Opts{two, treed} {
		d := disk.New(1 << 20)
		info := api.RunInfo{Number: 1, Lo: end - 5, Hi: end - 1, Count: 2}
		answers(t, "14.2: Write", run.Write(d, 1, o, info, []api.Entry{word(1, 1, end-4), word(2, 1<<48, end-4)}), api.OK)
		lay(d, "j2", journalOf(t, put(end, 3, z(3))))
		answers(t, "8.5: Store", manifest.Store(d, api.Manifest{Opts: o, Seq: end - 1, Next: 3, Journal: 2, Runs: []api.RunInfo{info}}), api.OK)
		b := bothOf(t, fmt.Sprint("mode ", o.Mode), d)
		b.check()
		if _, e := b.repair(); e != api.OK {
			t.Fatalf("23.3: %s: %d", b.where, e)
		}
		k, e := keep.Open(b.d)
		if e != api.OK || k.Seq() != end || k.Count() != 3 {
			t.Errorf("23.4: %s: %d, S is %d", b.where, e, k.Seq())
		}
	}
}
