package wire_test

import (
	"encoding/hex"
	"math"
	"runtime"
	"slices"
	"strings"
	"testing"
	"unsafe"

	"kindred/api"
	"kindred/internal/sample"
	"kindred/wire"
)

// raw is the text that is written so in the chapter's hexadecimals.
func raw(t *testing.T, digits string) string {
	t.Helper()
	b, err := hex.DecodeString(strings.ReplaceAll(digits, " ", ""))
	if err != nil {
		t.Fatal(err)
	}
	return string(b)
}

func sameReply(a, b api.Reply) bool {
	return a.Code == b.Code && a.N == b.N && a.Text == b.Text && slices.Equal(a.Hits, b.Hits)
}

// short is the beginning of a text that is too long to be told.
func short(b string) string { return hex.EncodeToString([]byte(b[:min(len(b), 40)])) }

// checkAsk holds a request against the model, and what was written against what is read.
func checkAsk(t *testing.T, q api.Request) api.Errno {
	t.Helper()
	want, e := askModel(q)
	got, why := wire.Ask(q)
	if got != want || why != e {
		t.Fatalf("Ask(op %d, id %d, %d bytes, k %d, r %d) = %s, %d, want %s, %d", q.Op, q.ID, len(q.Code), q.K, q.R, short(got), why, short(want), e)
	}
	if e != api.OK {
		return e
	}
	if back, why := wire.Asked(got); back != q || why != api.OK {
		t.Fatalf("18.6: Asked(%s): %d", short(got), why)
	}
	if op, r, why := wire.Told(got); op != 0 || !sameReply(r, api.Reply{}) || why != api.ErrKind {
		t.Fatalf("18.6: a request is told as a reply: %s: %d", short(got), why)
	}
	return api.OK
}

// checkTell does so with a reply.
func checkTell(t *testing.T, op int, r api.Reply) api.Errno {
	t.Helper()
	before := slices.Clone(r.Hits)
	want, e := tellModel(op, r)
	got, why := wire.Tell(op, r)
	if got != want || why != e {
		t.Fatalf("Tell(%d, code %d, n %d, %d bytes, %d hits) = %s, %d, want %s, %d", op, r.Code, r.N, len(r.Text), len(r.Hits), short(got), why, short(want), e)
	}
	if !slices.Equal(before, r.Hits) {
		t.Fatal("Tell has changed the hits that it was handed")
	}
	if e != api.OK {
		return e
	}
	if o, back, why := wire.Told(got); o != op || !sameReply(back, r) || why != api.OK {
		t.Fatalf("18.6: Told(%s): %d", short(got), why)
	}
	if q, why := wire.Asked(got); q != (api.Request{}) || why != api.ErrKind {
		t.Fatalf("18.6: a reply is read as a request: %s: %d", short(got), why)
	}
	return api.OK
}

// checkBytes holds both readers against the model, and what they read against what is written of it; it tells the two answers.
func checkBytes(t *testing.T, b string) (api.Errno, api.Errno) {
	t.Helper()
	q, asked := askedModel(b)
	if got, e := wire.Asked(b); got != q || e != asked {
		t.Fatalf("Asked(%s): %d, want %d", short(b), e, asked)
	}
	if asked == api.OK {
		if again, e := wire.Ask(q); again != b || e != api.OK {
			t.Fatalf("18.6: what was read of %s is written as %s, %d", short(b), short(again), e)
		}
	}
	op, r, told := toldModel(b)
	if o, got, e := wire.Told(b); o != op || !sameReply(got, r) || e != told {
		t.Fatalf("Told(%s): %d, want %d", short(b), e, told)
	}
	if told == api.OK {
		if again, e := wire.Tell(op, r); again != b || e != api.OK {
			t.Fatalf("18.6: what was read of %s is written as %s, %d", short(b), short(again), e)
		}
	}
	return asked, told
}

func TestExamplesOfRequests(t *testing.T) {
	long := strings.Repeat("c", 65537)
	for _, c := range []struct {
		q    api.Request
		want string
		e    api.Errno
	}{
		{api.Request{Op: 6}, "51 06", api.OK},
		{api.Request{Op: 2, ID: 300}, "51 02 ac 02", api.OK},
		{api.Request{Op: 4, Code: "ab", K: 5}, "51 04 02 61 62 05", api.OK},
		{api.Request{Op: 0}, "", api.ErrKind},
		{api.Request{Op: 6, K: 1}, "", api.ErrForm},
		{api.Request{Op: 2, ID: -1}, "", api.ErrRange},
		{api.Request{Op: 1, Code: long}, "", api.ErrBig},
		{api.Request{Op: 2, ID: -1, K: 1}, "", api.ErrForm},
		// one of each that the chapter has no example of
		{api.Request{Op: 1, ID: 1, Code: "ab"}, "51 01 01 02 61 62", api.OK},
		{api.Request{Op: 3, ID: 0}, "51 03 00", api.OK},
		{api.Request{Op: 5, Code: "ab", R: 128}, "51 05 02 61 62 80 01", api.OK},
		{api.Request{Op: 7}, "51 07", api.OK},
		{api.Request{Op: 8}, "51 08", api.OK},
		{api.Request{Op: 9}, "51 09", api.OK},
	} {
		got, e := wire.Ask(c.q)
		if got != raw(t, c.want) || e != c.e {
			t.Errorf("18.2: Ask of op %d: %s, %d, want %s, %d", c.q.Op, short(got), e, c.want, c.e)
		}
		checkAsk(t, c.q)
	}
	for _, c := range []struct {
		b    string
		want api.Request
		e    api.Errno
	}{
		{"51 02 ac 02", api.Request{Op: 2, ID: 300}, api.OK},
		{"51 02 ac", api.Request{}, api.ErrShort},
		{"51 02 ac 02 00", api.Request{}, api.ErrLong},
		{"51 02 80 00", api.Request{}, api.ErrForm},
		{"51 0a", api.Request{}, api.ErrKind},
		{"52 06", api.Request{}, api.ErrKind},
		{"", api.Request{}, api.ErrShort},
	} {
		if q, e := wire.Asked(raw(t, c.b)); q != c.want || e != c.e {
			t.Errorf("18.5: Asked(%s): %+v, %d, want %+v, %d", c.b, q, e, c.want, c.e)
		}
	}
	if q, e := wire.Asked(raw(t, "51 04 81 80 04") + long + "\x05"); q != (api.Request{}) || e != api.ErrBig {
		t.Errorf("18.5: a text of 65537 bytes: %d, want ErrBig", e)
	}
}

func TestExamplesOfReplies(t *testing.T) {
	hits := func(list ...api.Hit) api.Reply { return api.Reply{Hits: list} }
	for i, c := range []struct {
		op   int
		r    api.Reply
		want string
		e    api.Errno
	}{
		{6, api.Reply{N: 3}, "52 06 00 03", api.OK},
		{3, api.Reply{Text: "x"}, "52 03 00 01 78", api.OK},
		{3, api.Reply{Code: 131}, "52 03 83 01", api.OK},
		{7, api.Reply{}, "52 07 00", api.OK},
		{3, api.Reply{Code: 131, Text: "x"}, "", api.ErrForm},
		{6, api.Reply{Text: "x"}, "", api.ErrForm},
		{6, api.Reply{Code: 1000}, "", api.ErrRange},
		{6, api.Reply{N: -1}, "", api.ErrRange},
		{5, hits(api.Hit{Dist: 2, ID: 7, Code: "a"}, api.Hit{Dist: 2, ID: 9, Code: "a"}), "52 05 00 02 02 07 01 61 02 09 01 61", api.OK},
		{5, hits(api.Hit{Dist: 2, ID: 9, Code: "a"}, api.Hit{Dist: 2, ID: 7, Code: "a"}), "", api.ErrOrder},
		{5, hits(api.Hit{Dist: 2, ID: 7, Code: "a"}, api.Hit{Dist: 2, ID: 7, Code: "a"}), "", api.ErrOrder},
		{5, api.Reply{Hits: make([]api.Hit, 65537)}, "", api.ErrMany},
		// what the chapter has no example of
		{6, api.Reply{Code: 999}, "52 06 e7 07", api.OK},
		{6, api.Reply{Code: -1}, "", api.ErrRange},
		{4, hits(api.Hit{Dist: 3, ID: 7}, api.Hit{Dist: 2, ID: 9}), "", api.ErrOrder},
		{4, hits(api.Hit{Dist: 2, ID: 9}, api.Hit{Dist: 3, ID: 7}), "52 04 00 02 02 09 00 03 07 00", api.OK},
		{4, api.Reply{Hits: []api.Hit{}}, "52 04 00 00", api.OK},
		{7, api.Reply{Hits: []api.Hit{}}, "52 07 00", api.OK},
		{5, api.Reply{Code: 45, Hits: []api.Hit{{}}}, "", api.ErrForm},
		{8, api.Reply{Code: 45, N: 1}, "", api.ErrForm},
	} {
		got, e := wire.Tell(c.op, c.r)
		if got != raw(t, c.want) || e != c.e {
			t.Errorf("18.4: row %d: %s, %d, want %s, %d", i, short(got), e, c.want, c.e)
		}
		checkTell(t, c.op, c.r)
	}
}

// TestFaultsInTheirOrder: of two faults the one that the chapter says first is answered, whichever field has it.
func TestFaultsInTheirOrder(t *testing.T) {
	long := strings.Repeat("c", api.MaxPayload+1)
	numbers := []int{0, 1, -1, math.MinInt, math.MaxInt}
	seen := map[api.Errno]int{}
	for _, op := range []int{math.MinInt, -1, 0, 1, 2, 3, 4, 5, 6, 7, 8, 9, 10, 255, 256, 257, 1 << 32, 1<<32 + 1, math.MaxInt} {
		for _, id := range numbers {
			for _, k := range numbers {
				for _, r := range numbers {
					for _, code := range []string{"", "c", long} {
						seen[checkAsk(t, api.Request{Op: op, ID: id, Code: code, K: k, R: r})]++
					}
				}
			}
		}
		lists := [][]api.Hit{
			nil, {{}}, make([]api.Hit, api.MaxHits+1),
			{{Dist: -1}}, {{ID: -1}}, {{Code: long}}, {{Dist: -1, Code: long}}, {{ID: math.MinInt, Code: long}},
			{{Dist: 1}, {Code: long}}, {{Dist: 1}, {ID: -1}}, {{Dist: 1}, {Dist: -1}}, {{Dist: 1}, {}, {Dist: -1}}, {{Dist: 1}, {Code: long}, {Dist: -1}},
			{{Dist: 1, ID: 1}, {Dist: 1}}, {{Dist: 1, ID: 1}, {Dist: 1, ID: 1}}, {{Dist: 1, ID: 1}, {Dist: 1, ID: 2}}, {{Dist: 1, ID: 1}, {Dist: 2}},
			{{Dist: math.MaxInt, ID: math.MaxInt - 1}, {Dist: math.MaxInt, ID: math.MaxInt}},
		}
		for _, code := range []api.Errno{math.MinInt, -1, 0, 1, 131, 999, 1000, math.MaxInt} {
			for _, n := range numbers {
				for _, text := range []string{"", "x", long} {
					for _, list := range lists {
						seen[checkTell(t, op, api.Reply{Code: code, N: n, Text: text, Hits: list})]++
					}
				}
			}
		}
	}
	for _, e := range []api.Errno{api.OK, api.ErrKind, api.ErrForm, api.ErrRange, api.ErrBig, api.ErrMany, api.ErrOrder} {
		if seen[e] == 0 {
			t.Errorf("nothing was answered %d", e)
		}
	}
}

// TestBounds: what stands just at a bound is written and read; one past it is refused.
func TestBounds(t *testing.T) {
	full := strings.Repeat("\xff", api.MaxPayload)
	if e := checkAsk(t, api.Request{Op: api.OpRadius, Code: full, R: math.MaxInt}); e != api.OK {
		t.Errorf("a request at its bounds: %d", e)
	}
	if e := checkTell(t, api.OpGet, api.Reply{Text: full}); e != api.OK {
		t.Errorf("a text of MaxPayload bytes: %d", e)
	}
	if e := checkTell(t, api.OpTop, api.Reply{Hits: []api.Hit{{Code: full}, {ID: math.MaxInt, Code: full}}}); e != api.OK {
		t.Errorf("codes of MaxPayload bytes: %d", e)
	}
	list := make([]api.Hit, api.MaxHits)
	for i := range list {
		list[i] = api.Hit{Dist: i / 7, ID: i % 7 * 100, Code: "ab"}
	}
	if e := checkTell(t, api.OpRadius, api.Reply{Hits: list}); e != api.OK {
		t.Errorf("MaxHits hits: %d", e)
	}
	many, _ := wire.Tell(api.OpRadius, api.Reply{Hits: list})
	for _, size := range []int{len(many) - 1, len(many) / 2, 7} {
		if _, e := checkBytes(t, many[:size]); e != api.ErrShort {
			t.Errorf("%d of %d bytes: %d, want ErrShort", size, len(many), e)
		}
	}
	nines := strings.Repeat("\xff", 9)
	for _, c := range []struct {
		b    string
		want api.Errno
	}{
		{"R\x06\x00" + nines[:8] + "\x7f", api.OK}, // the greatest int
		{"R\x06\x00" + strings.Repeat("\x80", 9) + "\x01", api.ErrRange},
		{"R\x06\x00" + nines + "\x01", api.ErrRange},
		{"R\x06\x00" + nines + "\x02", api.ErrOver},
		{"R\x06\x00" + nines + "\x80", api.ErrOver},
		{"R\x06\x00" + nines, api.ErrShort},
		{"R\x06\x00" + nines + "\x00", api.ErrForm},
		{"R\x06\xe7\x07", api.OK},
		{"R\x06\xe8\x07", api.ErrRange},
		{"R\x06" + nines + "\x01", api.ErrRange},
		{"R\x03\x00" + nines + "\x01", api.ErrRange},
		{"R\x03\x00" + nines[:8] + "\x7f", api.ErrBig},
		{"R\x03\x00\x81\x80\x04", api.ErrBig},
		{"R\x03\x00\x80\x80\x04", api.ErrShort},
		{"R\x04\x00" + nines + "\x01", api.ErrRange},
		{"R\x04\x00" + nines[:8] + "\x7f", api.ErrMany},
		{"R\x04\x00\x81\x80\x04", api.ErrMany},
		{"R\x04\x00\x80\x80\x04", api.ErrShort},
		{"R\x04\x00\x02\x01\x01\x00\x01\x01\x81\x80\x04", api.ErrBig}, // ahead of ErrOrder
		{"R\x04\x00\x02\x01\x01\x00\x01\x01\x01", api.ErrShort},       // likewise
		{"R\x04\x00\x02\x01\x01\x00\x01\x01\x00", api.ErrOrder},       // twice the same
		{"R\x04\x00\x02\x01\x01\x00\x01\x01\x00\x00", api.ErrOrder},   // ahead of ErrLong
		{"R\x04\x00\x03\x01\x01\x00\x01\x01\x00", api.ErrOrder},       // ahead of the missing third's ErrShort
		{"R\x04\x00\x02\x01\x01\x00\x01\x02\x00\x00", api.ErrLong},    // as it should be, and a byte
		{"R\x04\x83\x01\x00", api.ErrLong},                            // hits behind a refusal
		{"R\x04\x00\x01" + nines + "\x01\x00\x00", api.ErrRange},      // a distance
		{"R\x04\x00\x01\x00" + nines + "\x01\x00", api.ErrRange},      // an id
		{"R\x04\x00\x01\x00\x00" + nines + "\x01", api.ErrRange},      // a code's length
		{"R\x04\x00\x01\x00\x00\x80\x00", api.ErrForm},                // likewise
		{"R\x04\x00\x02\x00\x00\x00\x00\x01\x00", api.OK},             // hits at no distance
		{"R\x04\x00\x02\x00\x01\x00\x01\x00\x00", api.OK},             // a lesser id, farther
		{"R\x04\x00\x02\x01\x00\x00\x00\x01\x00", api.ErrOrder},       // a greater id, nearer
		{"R\x00", api.ErrKind}, {"R\x0a\x00", api.ErrKind}, {"R\xff", api.ErrKind},
	} {
		if _, e := checkBytes(t, c.b); e != c.want {
			t.Errorf("18.5: Told(%x): %d, want %d", c.b, e, c.want)
		}
	}
}

// TestAllShortTexts: every text of at most two bytes; every operation with every two bytes behind it; and with every few bytes of those that count.
func TestAllShortTexts(t *testing.T) {
	seen := map[api.Errno]int{}
	look := func(b string) {
		asked, told := checkBytes(t, b)
		seen[asked]++
		seen[told]++
	}
	look("")
	for i := range 256 {
		look(string([]byte{byte(i)}))
		for j := range 256 {
			look(string([]byte{byte(i), byte(j)}))
			for op := range 11 {
				look(string([]byte{'Q', byte(op), byte(i), byte(j)}))
				look(string([]byte{'R', byte(op), byte(i), byte(j)}))
				look(string([]byte{'R', byte(op), 0, byte(i), byte(j)}))
			}
		}
	}
	var tails func(b string, left int)
	tails = func(b string, left int) {
		look(b)
		if left == 0 {
			return
		}
		for _, c := range []byte{0, 1, 2, 0x80, 0xff} {
			tails(b+string([]byte{c}), left-1)
		}
	}
	for op := 1; op <= 9; op++ {
		tails(string([]byte{'Q', byte(op)}), 6)
		tails(string([]byte{'R', byte(op)}), 6)
	}
	tails("R\x05\x00\x02", 7)
	for _, e := range []api.Errno{api.OK, api.ErrShort, api.ErrKind, api.ErrForm, api.ErrBig, api.ErrMany, api.ErrLong, api.ErrOrder, api.ErrRange} {
		if seen[e] == 0 {
			t.Errorf("nothing was answered %d", e)
		}
	}
}

// someNumber is one of 0 or above, of any size.
func someNumber(s *sample.Source) int {
	switch s.Below(4) {
	case 0:
		return s.Below(3)
	case 1:
		return s.Below(300)
	}
	return int(s.Next() >> 1 >> s.Below(63))
}

func someRequest(s *sample.Source) api.Request {
	q := api.Request{Op: 1 + s.Below(9)}
	for _, name := range askedFor[q.Op] {
		switch name {
		case 'i':
			q.ID = someNumber(s)
		case 'k':
			q.K = someNumber(s)
		case 'r':
			q.R = someNumber(s)
		case 'c':
			q.Code = s.Text(s.Below(1 << s.Below(9)))
		}
	}
	return q
}

func someReply(s *sample.Source) (int, api.Reply) {
	op := 1 + s.Below(9)
	if s.Below(4) == 0 {
		return op, api.Reply{Code: api.Errno(1 + s.Below(999))}
	}
	var r api.Reply
	switch answered[op] {
	case "n":
		r.N = someNumber(s)
	case "t":
		r.Text = s.Text(s.Below(1 << s.Below(9)))
	case "h":
		var at api.Hit
		for range s.Below(9) {
			if further := s.Below(3); further > 0 {
				at = api.Hit{Dist: at.Dist + further, ID: s.Below(200)}
			} else {
				at.ID += 1 + s.Below(200)
			}
			at.Code = s.Text(s.Below(12))
			r.Hits = append(r.Hits, at)
		}
	}
	return op, r
}

// TestThereAndBack: what was written is read; no beginning of it is a message, nor is it with something behind it; with a byte changed it is what the chapter's words say.
func TestThereAndBack(t *testing.T) {
	s := sample.From(18)
	try := func(b string, read func(string) api.Errno) {
		for size := range len(b) {
			if e := read(b[:size]); e != api.ErrShort {
				t.Fatalf("18.6: %d bytes of %s: %d, want ErrShort", size, short(b), e)
			}
		}
		for _, behind := range []string{"\x00", "\x01", "Q", "R", "\xff", b} {
			if e := read(b + behind); e != api.ErrLong {
				t.Fatalf("18.6: %s and something behind it: %d, want ErrLong", short(b), e)
			}
		}
		for range 12 {
			changed := []byte(b)
			changed[s.Below(len(b))] = byte(s.Next())
			checkBytes(t, string(changed))
			cut := s.Below(len(b))
			checkBytes(t, b[:cut]+b[cut+1:])
			checkBytes(t, b[:cut]+string([]byte{byte(s.Next())})+b[cut:])
		}
	}
	for range 3000 {
		q := someRequest(s)
		if e := checkAsk(t, q); e != api.OK {
			t.Fatalf("Ask(%+v): %d", q, e)
		}
		b, _ := wire.Ask(q)
		try(b, func(b string) api.Errno { _, e := wire.Asked(b); return e })
		op, r := someReply(s)
		if e := checkTell(t, op, r); e != api.OK {
			t.Fatalf("Tell(%d, %+v): %d", op, r, e)
		}
		b, _ = wire.Tell(op, r)
		try(b, func(b string) api.Errno { _, _, e := wire.Told(b); return e })
	}
}

// TestAnyBytes: W8: every byte string is read or refused.
func TestAnyBytes(t *testing.T) {
	s := sample.From(8)
	for range 200000 {
		b := []byte(s.Text(2 + s.Below(24)))
		b[0] = "QR"[s.Below(2)]
		b[1] = byte(s.Below(11))
		for i := 2; i < len(b); i++ {
			if s.Below(3) > 0 {
				b[i] = byte(s.Below(4))
			}
		}
		checkBytes(t, string(b))
	}
}

// TestNewMemory: answers share nothing with what they were read from, and the list of hits is the caller's.
func TestNewMemory(t *testing.T) {
	within := func(part, whole string) bool {
		from, at := uintptr(unsafe.Pointer(unsafe.StringData(whole))), uintptr(unsafe.Pointer(unsafe.StringData(part)))
		return at >= from && at < from+uintptr(len(whole))
	}
	b, _ := wire.Ask(api.Request{Op: api.OpInsert, Code: "code"})
	if q, _ := wire.Asked(b); within(q.Code, b) {
		t.Error("a request's code is a piece of the message")
	}
	b, _ = wire.Tell(api.OpGet, api.Reply{Text: "text"})
	if _, r, _ := wire.Told(b); within(r.Text, b) {
		t.Error("a reply's text is a piece of the message")
	}
	list := append(make([]api.Hit, 0, 9), api.Hit{Code: "code"}, api.Hit{ID: 1, Code: "code"})
	spare := list[:9]
	spare[2].ID = 77
	b, _ = wire.Tell(api.OpTop, api.Reply{Hits: list})
	if spare[2].ID != 77 {
		t.Error("the spare room of a list was written to")
	}
	list[0].ID = 99
	_, first, _ := wire.Told(b)
	first.Hits[0].ID = 55
	_, second, _ := wire.Told(b)
	if second.Hits[0].ID != 0 || within(second.Hits[1].Code, b) {
		t.Error("hits share memory with the message or with one another")
	}
}

// TestFewBytesManySaid: a short message that says that it has many hits or a long text is refused without room made for them.
func TestFewBytesManySaid(t *testing.T) {
	for _, b := range []string{"R\x05\x00\x80\x80\x04", "R\x05\x00\x80\x80\x04\x01\x01\x80\x80\x04", "R\x03\x00\x80\x80\x04", "Q\x04\x80\x80\x04"} {
		var before, behind runtime.MemStats
		runtime.ReadMemStats(&before)
		for range 100 {
			wire.Told(b)
			wire.Asked(b)
		}
		runtime.ReadMemStats(&behind)
		if each := (behind.TotalAlloc - before.TotalAlloc) / 100; each > 4096 {
			t.Errorf("%x: %d bytes of memory", b, each)
		}
	}
}
