package shards_test

import (
	"fmt"
	"slices"
	"testing"

	"kindred/api"
	"kindred/engine"
	"kindred/shards"
)

// three are shards of three engines, with two pairs each: 0 to 5.
func three(t *testing.T) ([]*store, *shards.Shards) {
	t.Helper()
	stores := storesOf(t, 64, 3)
	s := shardsOf(t, stores...)
	for id := range 6 {
		answers(t, "21.3: Insert", s.Insert(id, z(byte(id))), api.OK)
	}
	return stores, s
}

// ends are the ways in which an engine ends, with what it refuses from then on.
func ends() map[string]struct {
	end  func(s *store)
	says api.Errno
} {
	type row = struct {
		end  func(s *store)
		says api.Errno
	}
	return map[string]row{
		"closed":        {func(s *store) { s.e.Close() }, api.ErrClosed},
		"without power": {func(s *store) { s.cutOff() }, api.ErrDown},
		"power is back": {func(s *store) { s.cutOff(); s.d.Crash(nil) }, api.ErrDown},
		"given up":      {func(s *store) { s.d.Crash([]api.Cut{{Name: "j1", Keep: 999}}) }, api.ErrDown},
	}
}

// TestOneEnds (21.7): searches are refused, what belongs to the others goes on, and they are synced.
func TestOneEnds(t *testing.T) {
	for how, c := range ends() {
		for gone := range 3 {
			where := fmt.Sprintf("engine %d %s", gone, how)
			stores, s := three(t)
			c.end(stores[gone])
			for range 2 {
				checkSearches(t, where, s, z(0), 1, 0, nil, c.says)
				checkSearches(t, where, s, z(0), 0, 64, nil, c.says)
			}
			for id := range 6 {
				code, want := z(byte(id)), api.OK
				if id%3 == gone {
					code, want = "", c.says
				}
				checkGet(t, where, s, id, code, want)
				answers(t, where+": 21.7: Insert", s.Insert(id+6, z(7)), want)
				answers(t, where+": 21.7: Delete", s.Delete(id), want)
			}
			if s.Count() != 6 {
				t.Errorf("21.5: %s: Count is %d, want 6", where, s.Count())
			}
			answers(t, where+": 21.5: Sync", s.Sync(), c.says)
			for i, x := range stores {
				if i != gone && x.e.Synced() != 6 {
					t.Errorf("21.5: %s: engine %d is synced up to %d, want 6", where, i, x.e.Synced())
				}
			}
		}
	}
}

// TestFirstRefusal: of several engines that refuse the first one's refusal is the answer, and of a question that none can answer engine 0's.
func TestFirstRefusal(t *testing.T) {
	for i := range 3 {
		for j := range 3 {
			if i == j {
				continue
			}
			stores, s := three(t)
			stores[i].e.Close()
			stores[j].cutOff()
			where := fmt.Sprintf("engine %d closed, engine %d without power", i, j)
			first := api.ErrClosed
			if j < i {
				first = api.ErrDown
			}
			checkSearches(t, where, s, z(0), 1, 1, nil, first)
			answers(t, where+": 21.5: Sync", s.Sync(), first)
			if rest := 3 - i - j; stores[rest].e.Synced() != 2 {
				t.Errorf("21.5: %s: the third is synced up to %d", where, stores[rest].e.Synced())
			}
			wrong := first
			if min(i, j) > 0 {
				wrong = api.ErrCode
			}
			checkSearches(t, where+", no code", s, "x", 9999, 9999, nil, wrong)
			if wrong == api.ErrCode {
				_, f := s.TopK(z(0), 4097)
				answers(t, where+": 21.4: TopK of 4097", f, api.ErrK)
				_, f = s.Radius(z(0), 65)
				answers(t, where+": 21.4: Radius of 65", f, api.ErrRadius)
			}
		}
	}
}

// TestPowerGoesInACall: of an update, and of a Sync, which goes on behind it.
func TestPowerGoesInACall(t *testing.T) {
	for gone := range 3 {
		stores, s := three(t)
		stores[gone].d.Arm(1, false)
		answers(t, "21.5: Sync", s.Sync(), api.ErrDown)
		for i, x := range stores {
			if want := map[bool]int{false: 2}[i == gone]; x.e.Synced() != want {
				t.Errorf("21.5: the power of engine %d goes in a Sync: engine %d is synced up to %d, want %d", gone, i, x.e.Synced(), want)
			}
		}
		stores, s = three(t)
		stores[gone].d.Arm(1, true)
		answers(t, "21.3: Insert", s.Insert(9+gone, z(0)), api.ErrDown)
		answers(t, "21.3: the next one's", s.Insert(9+(gone+1)%3, z(0)), api.OK)
		checkSearches(t, "the power goes in an Insert", s, z(0), 1, 1, nil, api.ErrDown)
		if s.Count() != 7 {
			t.Errorf("21.5: the power goes in an Insert: Count is %d", s.Count())
		}
	}
}

// TestSyncedOutlastsAPowerCut: at all engines at one time; what is opened again are shards again.
func TestSyncedOutlastsAPowerCut(t *testing.T) {
	stores, s := three(t)
	answers(t, "21.5: Sync", s.Sync(), api.OK)
	answers(t, "21.3: Delete", s.Delete(2), api.OK)
	answers(t, "21.3: Insert", s.Insert(6, z(0)), api.OK)
	var again []*engine.Engine
	for _, x := range stores {
		x.d.Crash(nil)
		e, f := engine.Open(x.d)
		answers(t, "17.1: Open", f, api.OK)
		again = append(again, e)
	}
	checkSearches(t, "given up", s, z(0), 1, 1, nil, api.ErrDown)
	if s.Count() != 6 {
		t.Errorf("21.5: given up: Count is %d, want what it was", s.Count())
	}
	s, f := shards.New(again)
	answers(t, "21.2: New of what was opened again", f, api.OK)
	want := map[int]string{}
	for id := range 6 {
		want[id] = z(byte(id))
	}
	hits, f := s.Radius(z(2), 64)
	if f != api.OK || !slices.Equal(hits, looked(want, z(2))) {
		t.Errorf("21.6: behind a power cut there are %s, %d", told(hits), f)
	}
}
