package front_test

import (
	"fmt"
	"slices"
	"strings"
	"testing"

	"kindred/api"
	"kindred/engine"
	"kindred/front"
	"kindred/internal/sample"
)

// long writes Z, O and T out, the codes of the chapter's examples.
func long(line string) string {
	zeros := strings.Repeat("0", 15)
	return strings.NewReplacer("Z", zeros+"0", "O", zeros+"1", "T", zeros+"3").Replace(line)
}

func checkLine(t *testing.T, where string, f *front.Front, line, want string) {
	t.Helper()
	if got := f.Handle(line); got != want {
		t.Fatalf("25.2: %s: Handle(%.200q) = %.300q, want %.300q", where, line, got, want)
	}
}

// checkLong is checkLine of a line and an answer with the examples' codes.
func checkLong(t *testing.T, where string, f *front.Front, line, want string) {
	t.Helper()
	checkLine(t, where, f, long(line), long(want))
}

// checkAll holds lines, parted by semicolons, against answers.
func checkAll(t *testing.T, where string, f *front.Front, lines, answers string) {
	t.Helper()
	l, a := strings.Split(lines, "; "), strings.Split(answers, "; ")
	if len(l) != len(a) {
		t.Fatalf("%d lines, %d answers", len(l), len(a))
	}
	for i := range l {
		checkLong(t, where, f, l[i], a[i])
	}
}

// pairs are those of the chapter's examples.
func pairs() []api.Pair {
	return []api.Pair{{ID: 5, Code: z(0)}, {ID: 6, Code: z(1)}, {ID: 7, Code: z(0)}}
}

// twins are two stores of the same life: one is asked by lines, the other by the model.
type twins struct {
	t *testing.T
	a *store
	b *store
	f *front.Front
}

func twinsOf(t *testing.T, o api.Opts, list ...api.Pair) *twins {
	t.Helper()
	return twinsWithRoom(t, 1<<28, o, list...)
}

func twinsWithRoom(t *testing.T, capacity int, o api.Opts, list ...api.Pair) *twins {
	t.Helper()
	w := &twins{t: t, a: storeWithRoom(t, capacity, o, list...), b: storeWithRoom(t, capacity, o, list...)}
	w.f = front.New(w.a.e)
	return w
}

// both does with each of them what is not asked by lines.
func (w *twins) both(do func(s *store)) {
	do(w.a)
	do(w.b)
	w.f = front.New(w.a.e)
}

// say asks both, and looks at both.
func (w *twins) say(line string) string {
	w.t.Helper()
	want := handleModel(w.b.e, line)
	checkLine(w.t, "beside the model", w.f, line, want)
	if a, b := w.a.seen(), w.b.seen(); a != b {
		w.t.Fatalf("25.6: %.200q has done something else than the engine's call: %.300q, want %.300q", line, a, b)
	}
	return want
}

func TestExamples(t *testing.T) {
	for _, o := range modes() {
		s := storeOf(t, o)
		f := front.New(s.e)
		checkAll(t, "updates", f, "insert 5 Z; insert 5 O; insert 6 O; insert 7 Z; insert -1 Z; insert 8 00", "0 0; 130 0; 0 0; 0 0; 60 0; 11 0")
		checkAll(t, "questions", f, "count; seq; get 6; get 9", "0 2 3 2; 0 2 3 0; 0 0 O; 131 0")
		checkAll(t, "the nearest", f, "top Z 2; top Z 0; top Z -1; top 00 1", "0 4 0 5 0 7 Z Z; 0 0; 100 0; 11 0")
		checkAll(t, "a distance", f, "radius T 1; radius T 65", "0 2 1 6 O; 101 0")
		checkAll(t, "near", f, "near 5 1; near 5 2; near 7 1; near 6 9; near 9 1; near 5 4096; near 9 -1", "0 2 0 7 Z; 0 4 0 7 1 6 Z O; 0 2 0 5 Z; 0 4 1 5 1 7 Z Z; 131 0; 100 0; 131 0")
		for _, line := range []string{"", "insert 05 Z", "insert 5", "top Z 2 3", "get +5", "top 0 1", "top AB 1", "Count", "near 5  1", "get 9223372036854775808"} {
			checkLong(t, "no request", f, line, "250 0")
		}
		checkAll(t, "steps", f, "step; step; sync; seq", "0 1 0; 0 1 1; 0 0; 0 2 3 3")
		if got := f.Script("# a\n\ncount\nget 9"); got != "0 2 3 2\n131 0\n" {
			t.Errorf("25.5: the example's script: %q", got)
		}
		checkAll(t, "closed", f, "close; get 6; count; sync; nothing", "0 0; 170 0; 0 2 3 2; 170 0; 250 0")
	}
}

// TestNew: nothing is asked of the engine, and others go on using it.
func TestNew(t *testing.T) {
	if front.New(nil) != nil {
		t.Error("25.1: New(nil) is no nil")
	}
	for _, o := range modes() {
		s := storeOf(t, o, pairs()...)
		s.d.Arm(1, true)
		was := s.seen()
		f, g := front.New(s.e), front.New(s.e)
		if f == nil || g == nil || s.seen() != was {
			t.Fatal("25.1: New has done something, or nothing")
		}
		s.d.Arm(0, false)
		checkLong(t, "one front", f, "insert 8 T", "0 0")
		checkLong(t, "the other", g, "get 8", "0 0 T")
		if e := s.e.Delete(8); e != api.OK {
			t.Fatalf("Delete: %d", e)
		}
		checkLong(t, "behind the engine's own call", f, "get 8", "131 0")
		s.e.Close()
		checkLong(t, "behind the engine's own Close", f, "get 5", "170 0")
		if front.New(s.e) == nil {
			t.Error("25.1: no front of a closed engine")
		}
		checkLong(t, "made of a closed engine", front.New(s.e), "count", "0 2 3 2")
	}
}

// requests are one line of each, all of which an engine with the examples' pairs does, but for the last one, which closes it.
func requests() []string {
	var list []string
	for _, line := range []string{"insert 8 T", "delete 7", "get 5", "top Z 2", "radius T 64", "near 6 1", "count", "seq", "sync", "step", "close"} {
		list = append(list, long(line))
	}
	return list
}

// TestHowManyWords: just so many as the table says.
func TestHowManyWords(t *testing.T) {
	for _, o := range modes() {
		w := twinsOf(t, o, pairs()...)
		for _, line := range requests() {
			words := strings.Split(line, " ")
			for n := range words {
				if short := strings.Join(words[:n], " "); w.say(short) != "250 0" {
					t.Errorf("25.2: %q is taken for a request", short)
				}
			}
			for _, more := range []string{" ", "  ", " 1", " 0", " 00", " x", " 1 2", " " + words[0], strings.Repeat(" 1", 50), strings.Repeat(" ", 1<<16)} {
				if w.say(line+more) != "250 0" || w.say(more+line) != "250 0" {
					t.Errorf("25.2: %.100q is taken for a request", line+more)
				}
			}
			// The words of one request behind the first word of another.
			for _, other := range requests() {
				first := strings.Split(other, " ")[0]
				if len(strings.Split(other, " ")) != len(words) && w.say(strings.Join(append([]string{first}, words[1:]...), " ")) != "250 0" {
					t.Errorf("25.2: %q with the words of %q is taken for a request", first, line)
				}
			}
		}
		for _, line := range requests() {
			if answer := w.say(line); !strings.HasPrefix(answer, "0 ") {
				t.Errorf("25.2: %q: %q", line, answer)
			}
		}
	}
}

// TestFirstWords: those of the table alone, as they are written there.
func TestFirstWords(t *testing.T) {
	w := twinsOf(t, modes()[0], pairs()...)
	for _, line := range requests() {
		first, rest, found := strings.Cut(line, " ")
		if found {
			rest = " " + rest
		}
		for _, word := range []string{"", strings.ToUpper(first), strings.ToUpper(first[:1]) + first[1:], first[1:], first[:len(first)-1], first + "s", "#" + first, "\ufeff" + first, first + "\x00", first + "\t"} {
			if w.say(word+rest) != "250 0" {
				t.Errorf("25.2: %q is taken for a request", word+rest)
			}
		}
	}
	for _, word := range []string{"few", "pairs", "codes", "synced", "stats", "open", "create", "opts", "tail", "compact", "#", "-", "0", "\x00", "\xff", "é", "\n", "\r", "\t"} {
		for _, rest := range []string{"", " 1", " 1 2", " " + long("Z") + " 1", " 1 " + long("Z")} {
			if w.say(word+rest) != "250 0" {
				t.Errorf("25.2: %q is taken for a request", word+rest)
			}
		}
	}
}

// TestNumbers: one way to write each int, in each place where a number stands.
func TestNumbers(t *testing.T) {
	good := []string{"0", "1", "-1", "5", "9", "10", "-10", "64", "65", "100", "4095", "4096", "4097", "281474976710656", "281474976710657", "9223372036854775807", "-9223372036854775808", "-9223372036854775807"}
	bad := []string{"", "-", "+", "-0", "+0", "00", "000", "01", "05", "-01", "-00", "+1", "+5", "--5", "-+5", "5-", "5+", "0x5", "0b1", "0o5", "5e0", "5.", "5.0", ".5", "5,0", "1_0", "0_5", "5_", "a", "five", "5a", "٥", "５", "5\n", "\n5", "5\r", "5\t", "\t5", "5\x00", "\xff",
		"9223372036854775808", "-9223372036854775809", "9999999999999999999", "18446744073709551616", "18446744073709551621", "-18446744073709551611", "09223372036854775807", "1" + strings.Repeat("0", 100), strings.Repeat("0", 99) + "5", "-" + strings.Repeat("9", 1<<16)}
	for _, o := range modes() {
		w := twinsOf(t, o, pairs()...)
		for _, form := range []string{"insert % T", "delete %", "get %", "top Z %", "radius Z %", "near % 1", "near 6 %"} {
			for _, word := range good {
				if line := strings.Replace(long(form), "%", word, 1); w.say(line) == "250 0" {
					t.Errorf("25.2: %q is taken for no request", line)
				}
			}
			for _, word := range bad {
				if line := strings.Replace(long(form), "%", word, 1); w.say(line) != "250 0" {
					t.Errorf("25.2: %.100q is taken for a request", line)
				}
			}
		}
	}
}

// TestCodeWords: two small hexadecimal digits for each byte, one byte or more.
func TestCodeWords(t *testing.T) {
	good := []string{"00", "ff", "0f", "f0", "9a", "a9", "1234567890abcdef", "0123456789abcdef", "fedcba9876543210", long("Z"), long("Z") + "00", strings.Repeat("7f", 9), strings.Repeat("ab", 65537), "99999999999999999999", "05"}
	bad := []string{"", "0", "f", "000", long("Z") + "0", long("Z")[1:], "AB", "aB", "Ab", "F0", "0F", long("Z")[1:] + "A", "ABCDEF0123456789", "0g", "g0", "/0", ":0", "`0", "@0", "0/", "0:", "0`", "0@", "-1", "+1", "0x", "0x00", "x0", "00-", "00 00", " 00", "0\n", "\n0", "00\n", "\x00\x00", "\xff\xff", "0\x80", "00,00", "é", "０", "zz", strings.Repeat("ab", 65537) + "a"}
	for _, o := range modes() {
		w := twinsOf(t, o, pairs()...)
		for _, form := range []string{"insert 3 %", "top % 2", "radius % 64"} {
			for _, word := range good {
				if line := strings.Replace(form, "%", word, 1); w.say(line) == "250 0" {
					t.Errorf("25.2: %.100q is taken for no request", line)
				}
			}
			for _, word := range bad {
				if line := strings.Replace(form, "%", word, 1); w.say(line) != "250 0" {
					t.Errorf("25.2: %.100q is taken for a request", line)
				}
			}
		}
	}
}

// TestEveryByte: codes of all bytes there are, in each width, come back as they were said.
func TestEveryByte(t *testing.T) {
	const digits = "0123456789abcdef"
	for width := 64; width <= 1024; width += 64 {
		for _, o := range []api.Opts{{Width: width, Chunks: width / 32, Mode: api.Chunked}, {Width: width, Mode: api.Treed}} {
			s := storeOf(t, o)
			f := front.New(s.e)
			for id := range 2048 / width * 4 {
				var word, code string
				for i := range width / 8 {
					c := byte(id*width/8 + i)
					word += string([]byte{digits[c/16], digits[c%16]})
					code += string([]byte{c})
				}
				checkLine(t, "a code", f, fmt.Sprintf("insert %d %s", id, word), "0 0")
				if got, e := s.e.Get(id); e != api.OK || got != code {
					t.Fatalf("25.2: %q was put as %x", word, got)
				}
				checkLine(t, "a code", f, fmt.Sprintf("get %d", id), "0 0 "+word)
			}
		}
	}
}

// TestChangedBytes: each byte of a line made each other byte, left out, and put in twice.
func TestChangedBytes(t *testing.T) {
	for _, o := range modes() {
		w := twinsOf(t, o, pairs()...)
		for _, line := range []string{"get 6", "near 5 2", "count", "seq", "top " + long("T") + " 3", "radius " + long("Z") + " 1", "insert 5 " + long("T"), "delete 60"} {
			for i := range len(line) {
				w.say(line[:i] + line[i+1:])
				w.say(line[:i] + line[i:i+1] + line[i:])
				for c := range 256 {
					changed := line[:i] + string([]byte{byte(c)}) + line[i+1:]
					checkLine(t, "a byte changed", w.f, changed, handleModel(w.b.e, changed))
				}
			}
		}
	}
}

// TestNothingIsAsked: a line that is no request changes nothing, whatever its first word is.
func TestNothingIsAsked(t *testing.T) {
	for _, o := range modes() {
		s := storeOf(t, o, pairs()...)
		f := front.New(s.e)
		s.d.Arm(1, true)
		was := s.seen()
		for _, line := range []string{"close x", "close ", " close", "close\n", "step 1", "step ", "sync sync", "insert 9", "insert 9 ", "insert 09 Z", "insert 9 Z 1", "insert Z 9 Z", "insert 9 z", "delete 5 6", "delete 05", "delete", "delete +5", "Close", "sync\r", "#close"} {
			checkLong(t, "no request", f, line, "250 0")
			if s.seen() != was {
				t.Fatalf("25.6: %q has changed something", line)
			}
		}
		checkLong(t, "and yet the write was armed", f, "sync", "45 0")
		checkLong(t, "no request ahead of no power", f, "get 05", "250 0")
		s.e.Close()
		checkLong(t, "no request ahead of closed", f, "close 1", "250 0")
	}
}

// conditions are fronts of engines of all conditions, with what the engine's calls answer then.
func conditions(t *testing.T, o api.Opts) map[string]struct {
	f      *front.Front
	code   string
	counts string
} {
	closed, off, crashed, both := storeOf(t, o, pairs()...), storeOf(t, o, pairs()...), storeOf(t, o, pairs()...), storeOf(t, o, pairs()...)
	closed.e.Close()
	off.d.Arm(1, false)
	off.e.Sync()
	crashed.d.Crash(nil)
	both.d.Crash(nil)
	both.e.Close()
	type row = struct {
		f      *front.Front
		code   string
		counts string
	}
	return map[string]row{
		"no front": {nil, "170 0", "0 2 0 0; 0 2 0 0"}, "unmade": {&front.Front{}, "170 0", "0 2 0 0; 0 2 0 0"},
		"of an unmade engine": {front.New(&engine.Engine{}), "170 0", "0 2 0 0; 0 2 0 0"},
		"closed":              {front.New(closed.e), "170 0", "0 2 3 2; 0 2 3 3"}, "without power": {front.New(off.e), "45 0", "0 2 3 2; 0 2 3 0"},
		"given up": {front.New(crashed.e), "45 0", "0 2 3 2; 0 2 3 0"}, "given up and closed": {front.New(both.e), "170 0", "0 2 3 2; 0 2 3 0"},
	}
}

// TestConditions: the engine's refusal comes behind ErrLine, ahead of all else; count and seq are answered always.
func TestConditions(t *testing.T) {
	for _, o := range modes() {
		for where, c := range conditions(t, o) {
			for range 2 {
				checkAll(t, where, c.f, "count; seq", c.counts)
				for _, line := range requests()[:6] {
					checkLine(t, where, c.f, line, c.code)
				}
				for _, line := range []string{"insert 5 00", "insert -1 Z", "delete 99", "get -1", "top 00 -1", "radius 00 -1", "near 9 -1", "near 5 4096", "sync", "step"} {
					checkLong(t, where, c.f, line, c.code)
				}
				checkAll(t, where, c.f, "; x; get; get 05; near 5; count 1", "250 0; 250 0; 250 0; 250 0; 250 0; 250 0")
				if got, want := c.f.Script("get 5\n\n#\nx\ncount"), c.code+"\n250 0\n"+c.counts[:strings.Index(c.counts, ";")]+"\n"; got != want {
					t.Errorf("25.5: %s: %q, want %q", where, got, want)
				}
			}
			checkAll(t, where, c.f, "close; close; get 5", c.code+"; 170 0; 170 0")
			checkAll(t, where, c.f, "count; seq", c.counts)
		}
	}
}

// TestRefusals: what the engine refuses, in its order.
func TestRefusals(t *testing.T) {
	for _, o := range modes() {
		w := twinsOf(t, o, pairs()...)
		for _, line := range []string{"insert -1 00", "insert 281474976710657 00", "insert 5 00", "insert 281474976710657 Z", "insert 281474976710656 Z", "insert 281474976710656 Z", "delete -1", "delete 8", "delete 281474976710656", "delete 281474976710656", "get -1", "get 281474976710657", "get 281474976710656", "top 00 4097", "top Z 4097", "top Z 4096", "radius 00 65", "radius Z -1", "radius Z 64", "near -1 5000", "near 281474976710657 -1", "near 8 4096", "near 6 4096", "near 6 4095", "near 6 -9223372036854775808", "near 6 9223372036854775807", "near 6 0"} {
			w.say(long(line))
		}
		checkLong(t, "ErrK behind the pair's refusal", w.f, "near 281474976710657 -1", "60 0")
		checkLong(t, "ErrK behind the pair's refusal", w.f, "near 8 4096", "131 0")
		checkLong(t, "a K that must not wrap", w.f, "near 6 9223372036854775807", "100 0")
	}
}

// TestRoom: a full disk is told, and nothing has changed.
func TestRoom(t *testing.T) {
	for _, o := range modes() {
		w := twinsWithRoom(t, 400, o)
		full := 0
		for id := range 60 {
			if w.say(fmt.Sprintf("insert %d %016x", id, id)) == "44 0" {
				full++
			}
		}
		if full == 0 {
			t.Fatal("the disk was not full")
		}
		if w.say("step") != "44 0" {
			t.Error("W6: a step had room")
		}
		for _, line := range requests() {
			w.say(line)
		}
	}
}

// TestPower: the power goes at any write of any line.
func TestPower(t *testing.T) {
	for _, o := range modes() {
		for at := 1; at < 80; at++ {
			for _, done := range []bool{false, true} {
				w := twinsOf(t, o, pairs()...)
				w.both(func(s *store) { s.d.Arm(at, done) })
				for _, line := range []string{"insert 8 T", "sync", "step", "delete 6", "step", "step", "insert 6 T", "step", "near 6 2", "close", "seq", "count", "get 6"} {
					w.say(long(line))
				}
				w.both(func(s *store) {
					s.d.Crash(nil)
					s.reopen()
				})
				for _, line := range []string{"seq", "count", "near 6 2", "insert 9 O", "close"} {
					w.say(long(line))
				}
			}
		}
	}
}

// layout is a life of pairs that leaves them as they are.
type layout func(s *store, list []api.Pair)

func layouts() map[string]layout {
	steps := func(s *store, most int) {
		for range most {
			s.e.CompactStep()
		}
	}
	return map[string]layout{
		"as they are":       func(*store, []api.Pair) {},
		"flushed":           func(s *store, _ []api.Pair) { steps(s, 1) },
		"compaction begun":  func(s *store, list []api.Pair) { again(s, list, func() { steps(s, 1) }); steps(s, 2) },
		"put there again":   func(s *store, list []api.Pair) { again(s, list, func() {}) },
		"compacted, opened": func(s *store, list []api.Pair) { again(s, list, func() { steps(s, 1) }); steps(s, 99); s.reopen() },
	}
}

// again takes half of the pairs away and puts them there.
func again(s *store, list []api.Pair, between func()) {
	for _, p := range list[:len(list)/2] {
		s.e.Delete(p.ID)
	}
	between()
	for _, p := range list[:len(list)/2] {
		s.e.Insert(p.ID, p.Code)
	}
	between()
}

// TestNear: all other pairs' first K, many of which are equally far.
func TestNear(t *testing.T) {
	g := sample.From(25)
	for _, o := range modes() {
		for where, live := range layouts() {
			var list []api.Pair
			for _, id := range ids(g, 60) {
				list = append(list, api.Pair{ID: id, Code: z(byte(g.Below(6)))})
			}
			w := twinsOf(t, o, list...)
			w.both(func(s *store) { live(s, list) })
			for _, p := range list {
				for _, k := range []int{-1, 0, 1, 2, 3, 10, 30, 58, 59, 60, 61, 100, 4095, 4096} {
					line := fmt.Sprintf("near %d %d", p.ID, k)
					checkLine(t, "25.7: "+where, w.f, line, handleModel(w.b.e, line))
				}
			}
			w.say("count")
		}
	}
}

// ids are n unlike ids in no order, the least and the greatest among them.
func ids(g *sample.Source, n int) []int {
	list := []int{1 << 48, 0}
	for len(list) < n {
		if id := g.Below(2 * n); !slices.Contains(list, id) {
			list = append(list, id)
		}
	}
	return list
}

// TestNearAmongMany: more pairs of one code than may be asked for: the pair itself is not among those that the engine finds.
func TestNearAmongMany(t *testing.T) {
	for _, o := range modes() {
		var list []api.Pair
		for i := range 4200 {
			list = append(list, api.Pair{ID: 3 * i, Code: z(0)})
		}
		w := twinsOf(t, o, append(list, api.Pair{ID: 1, Code: z(1)})...)
		for _, id := range []int{0, 3, 12285, 12288, 12291, 12597, 1} {
			for _, k := range []int{0, 1, 2, 4094, 4095, 4096} {
				line := fmt.Sprintf("near %d %d", id, k)
				checkLine(t, "one code", w.f, line, handleModel(w.b.e, line))
			}
		}
		if got := strings.Count(w.f.Handle("near 12597 4095"), " "); got != 1+3*4095 {
			t.Errorf("25.4: %d blanks", got)
		}
		checkLine(t, "the most", w.f, "top "+long("Z")+" 4096", handleModel(w.b.e, "top "+long("Z")+" 4096"))
	}
}

// TestMany: MaxHits hits are told, one more is refused.
func TestMany(t *testing.T) {
	for _, o := range []api.Opts{{Width: 64, Chunks: 2, Mode: api.Chunked}, modes()[1]} {
		s := storeOf(t, o)
		f := front.New(s.e)
		for i := range 65536 {
			if e := s.e.Insert(i, z(byte(i&1))); e != api.OK {
				t.Fatalf("Insert %d: %d", i, e)
			}
		}
		line := long("radius Z 1")
		checkLine(t, "the most", f, line, handleModel(s.e, line))
		checkAll(t, "one more", f, "step; insert 65536 Z; radius Z 1; radius O 1", "0 1 0; 0 0; 43 0; 43 0")
		checkLine(t, "half of them", f, long("radius O 0"), handleModel(s.e, long("radius O 0")))
		checkLine(t, "few of them", f, long("near 65536 3"), long("0 6 0 0 0 2 0 4 Z Z Z"))
		checkAll(t, "the engine's refusals go ahead", f, "radius Z 65; radius 00 1; top Z 4097", "101 0; 11 0; 100 0")
		checkAll(t, "one less again", f, "delete 0", "0 0")
		checkLine(t, "the most again", f, line, handleModel(s.e, line))
	}
}

// TestAnswersByTheModel: lines made up of words that go together and of such as do not.
func TestAnswersByTheModel(t *testing.T) {
	for _, o := range append(modes(), api.Opts{Width: 128, Chunks: 5, Mode: api.Chunked}) {
		for seed := range 20 {
			g := sample.From(2500 + seed)
			w := twinsOf(t, o)
			asked := map[string]int{}
			for range 300 {
				line := madeUp(g, o.Width/8)
				answer := w.say(line)
				first, _, _ := strings.Cut(line, " ")
				if !strings.HasPrefix(answer, "250 ") {
					asked[first]++
				}
				if g.Below(60) == 0 {
					w.both(func(s *store) {
						s.e.Close()
						s.reopen()
					})
				}
			}
			for _, word := range []string{"insert", "delete", "get", "top", "radius", "near", "count", "seq", "sync", "step"} {
				if asked[word] == 0 {
					t.Errorf("no line with %q was a request", word)
				}
			}
		}
	}
}

// madeUp is a line, a request most times.
func madeUp(g *sample.Source, bytes int) string {
	code := fmt.Sprintf("%0*x", 2*bytes, g.Below(40))
	id, small := fmt.Sprint(g.Below(30)), fmt.Sprint(g.Below(12))
	lines := []string{"insert " + id + " " + code, "insert " + id + " " + code, "insert " + id + " " + code, "delete " + id, "get " + id, "top " + code + " " + small, "radius " + code + " " + small, "near " + id + " " + small, "count", "seq", "sync", "step", "step"}
	line := lines[g.Below(len(lines))]
	switch at := g.Below(len(line) + 1); g.Below(12) {
	case 0:
		return line[:at]
	case 1:
		return line[:at] + " 0-1a\n#"[g.Below(7):][:1] + line[at:]
	case 2:
		return line[:at] + g.Text(1) + line[min(at+1, len(line)):]
	case 3:
		words := strings.Split(line, " ")
		return strings.Join(append(words[:1:1], words[len(words)-1], words[min(1, len(words)-1)]), " ")
	}
	return line
}
