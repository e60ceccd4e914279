package play_test

import (
	"fmt"
	"slices"
	"strings"
	"testing"

	"kindred/api"
	"kindred/play"
	"kindred/seal"
)

// The codes of the chapter's examples.
var (
	codeA = strings.Repeat("\x00", 8)
	codeB = strings.Repeat("\x00", 7) + "\x01"
	codeC = strings.Repeat("\xff", 8)
)

// long writes A, B and C out where they are words of a line.
func long(line string) string {
	words := strings.Split(line, " ")
	for i, w := range words {
		switch w {
		case "A":
			words[i] = wordModel(codeA)
		case "B":
			words[i] = wordModel(codeB)
		case "C":
			words[i] = wordModel(codeC)
		}
	}
	return strings.Join(words, " ")
}

// checkScript holds a script, lines parted by semicolons, against the report's lines. A line that is told as "?" may be anything; behind ".." stands its end.
func checkScript(t *testing.T, promise string, capacity int, script, report string) {
	t.Helper()
	lines, want := strings.Split(script, "; "), strings.Split(report, "; ")
	for i := range lines {
		lines[i] = long(lines[i])
	}
	text := strings.Join(lines, "\n")
	got := strings.Split(strings.TrimSuffix(play.Play(capacity, text), "\n"), "\n")
	if len(got) != len(want) || len(got) != len(lines) {
		t.Fatalf("%s: %d lines for %d, want %d: %q", promise, len(got), len(lines), len(want), got)
	}
	for i, line := range lines {
		end, open := strings.CutPrefix(want[i], "..")
		if want[i] == "?" || open && strings.HasSuffix(got[i], long(end)) || !open && got[i] == long("= "+want[i]) {
			continue
		}
		t.Errorf("%s: line %d, %s: %q, want %q", promise, i+1, line, got[i], want[i])
	}
	checkPlay(t, capacity, text)
}

// TestExamples: the chapter's, and DOC.md's of the whole.
func TestExamples(t *testing.T) {
	checkScript(t, "26: examples", 100000, "insert 1 A; open; create 64 4 1; create 64 4 1; insert 1 A; insert 2 C; insert 3 B; insert 1 C; top 2 A; radius 64 C; count; compact; compact; count; "+
		"delete 9; delete 3; get 3; get 2; crash; get 2; open; get 3; close; close; get 3; follow 1 A",
		"170; 42; 0; 150; 0; 0; 0; 130; 0 1 4 2 2 0 1 1 3 A B; .. 0 2 63 3 64 1 C B A; 0 3 3 3 0; 0 0; 0 1; 0 3 3 3 3; "+
			"131; 0; 131; 0 C; 0; 45; 0 3; 0 B; 0; 170; 170; 211")
	for _, x := range [][2]string{
		{"create 64 4 1; insert 1 A; insert 2 C; insert 3 B; insert 1 C; top 2 A; radius 64 C; get 3; get 4", "0; 0; 0; 0; 130; 0 1 4 2 2 0 1 1 3 A B; .. 0 2 63 3 64 1 C B A; 0 B; 131"},
		{"create 64 0 2; insert 1 A; insert 3 B; top 5 C", "0; 0; 0; 0 0 0 0 0 63 3 64 1 B A"},
		{"create 64 4 1; insert 1 A; sync; insert 2 B; count; crash; get 1; open; count", "0; 0; 0; 0; 0 2 2 2 1; 0; 45; 0 1; 0 1 1 1 0"},
		{"create 64 4 1; insert 1 A; insert 2 B; crash 999 0 j1; open; insert 3 C; crash 999 1 j1; open", "0; 0; 0; 0; 0 2; 0; 0; 0 2"},
		{"create 64 4 1; insert 1 A; insert 2 B; compact; compact; count; delete 1; top 1 A", "0; 0; 0; 0 0; 0 1; 0 2 2 2 2; 0; .. 1 2 B"},
		{"open; create 64 9 1; create 64 4 1; create 64 4 1; close; insert 1 A", "42; 12; 0; 150; 0; 170"},
		{"create 64 4 1; insert 5 A; insert 2 B; insert 9 C; join 1; groups 1 1", "0; 0; 0; 0; 0 1 2 5; 0 2 2 5 1 9"},
		{"create 64 4 1; insert 1 A; sync; insert 2 B; send 9; follow 9 A", "0; 0; 0; 0; 0 1 1; 0 1 1 0 1 A"},
	} {
		checkScript(t, "DOC.md: examples of the whole", 100000, x[0], x[1])
	}
	checkFull(t)
}

// checkFull: DOC.md's sixth example: insertions, as long as there is room.
func checkFull(t *testing.T) {
	t.Helper()
	n := 0
	script, report := "room 700; create 64 4 1", "0; 0"
	for play.Play(100000, strings.ReplaceAll(script+fmt.Sprintf("; insert %d abcdefgh", n), "; ", "\n")) == "= "+strings.ReplaceAll(report+"; 0", "; ", "\n= ")+"\n" {
		script, report = script+fmt.Sprintf("; insert %d abcdefgh", n), report+"; 0"
		n++
	}
	if n < 3 || n > 30 {
		t.Fatalf("DOC.md's sixth example: room for %d", n)
	}
	checkScript(t, "DOC.md: examples of the whole", 100000, fmt.Sprintf("%s; insert %d abcdefgh; sync; room 100000; open", script, n), fmt.Sprintf("%s; 44; 0; 0; 0 %d", report, n))
}

// TestPlay: the refusals, in their order, and how answers are written.
func TestPlay(t *testing.T) {
	for _, x := range []struct {
		capacity int
		text     string
		want     string
	}{
		{100000, "count\ncounts\n", "line 2: unknown step\n"}, {-1, "count", "no disk\n"}, {1<<30 + 1, "count", "no disk\n"}, {-1 << 63, "", "no disk\n"}, {1<<63 - 1, "# x", "no disk\n"},
		{-1, "x", "line 1: unknown step\n"}, {0, "\n\nget x", "line 3: too large\n"}, {0, "get  1", "line 1: not canonical\n"}, {0, "#\ncount\nget 1 2\nx  y", "line 3: unknown step\n"},
		{0, "", ""}, {0, "# x\n\n", ""}, {1 << 30, "", ""}, {0, "count", "= 170\n"}, {0, "open", "= 42\n"}, {0, "create 64 4 1", "= 44\n"}, {1 << 30, "create 64 4 1\nopen\n", "= 0\n= 0 0\n"},
	} {
		if got := play.Play(x.capacity, x.text); got != x.want {
			t.Errorf("26.10: Play(%d, %q) = %q, want %q", x.capacity, x.text, got, x.want)
		}
		checkPlay(t, x.capacity, x.text)
	}
	// The codes of a text that wants each way to write a byte, as words again.
	checkScript(t, "26.10", 100000, "create 64 4 1; insert 1 a%20b%25%C3%A9%09%00; get 1; inspect; ask get%201; ask %", "0; 0; 0 a%20b%25%C3%A9%09%00; 0; 0 0%200%2061206225c3a90900; 0 250%200")
	// Every refusal has its words.
	for text, e := range map[string]api.Errno{"x": api.ErrStep, "get x": api.ErrOver, "get ": api.ErrForm} {
		if got := play.Play(0, text); got != "line 1: "+e.Error()+"\n" {
			t.Errorf("26.10: %q: %q", text, got)
		}
	}
}

// TestRunWithoutDisk: no answer; with the smallest and the greatest disk one for each step.
func TestRunWithoutDisk(t *testing.T) {
	steps := []api.Step{{Kind: api.StepOpen}, {Kind: api.StepImage}, {}}
	for capacity, want := range map[int]int{-1 << 63: 0, -1: 0, 0: 3, 1: 3, 1 << 30: 3, 1<<30 + 1: 0, 1<<63 - 1: 0} {
		if got := play.Run(capacity, steps); len(got) != want {
			t.Errorf("26.1: Run with a disk for %d bytes: %d answers, want %d", capacity, len(got), want)
		}
	}
	if got := play.Run(100, nil); len(got) != 0 {
		t.Errorf("26.1: %d answers to no step", len(got))
	}
}

// TestWithoutEngine: which steps want one, and what the others answer on an empty disk.
func TestWithoutEngine(t *testing.T) {
	want := map[int]api.Answer{
		1: {Code: api.ErrWidth}, 2: {Code: api.ErrNone}, 12: {}, 13: {}, 14: {N: []int{int(seal.Sum("D"))}}, 15: {}, 16: {Code: api.ErrNone}, 17: {Code: api.ErrNone}, 21: {Code: api.ErrEmpty}, 23: {Code: api.ErrNone},
	}
	for kind := -3; kind < 30; kind++ {
		a, there := want[kind]
		if kind >= 1 && kind <= 23 && !there {
			a.Code = api.ErrClosed
		}
		for _, s := range []api.Step{{Kind: kind}, {Kind: kind, N: []int{0, 0, 9}, S: []string{"x", "y"}}} {
			if got := play.Run(1000, []api.Step{s, {Kind: 99}, {Kind: 1 << 62}, {Kind: -1 << 63}}); !same(got, []api.Answer{a, {}, {}, {}}) {
				t.Errorf("26.1: %+v: %+v, want %+v", s, got, a)
			}
		}
	}
}

// TestMissingNumbers: what is missing counts as 0 and as the empty text, what is too much is let go.
func TestMissingNumbers(t *testing.T) {
	first := []api.Step{{Kind: api.StepCreate, Opts: modes()[0]}, {Kind: api.StepInsert, N: []int{0}, S: []string{codeA}}, {Kind: api.StepInsert, N: []int{7}, S: []string{codeB}}, {Kind: api.StepSync}}
	for kind := 1; kind <= 23; kind++ {
		if kind == api.StepCrash {
			continue
		}
		words := strings.Split(rows[kind-1], " ")[1:]
		full := api.Step{Kind: kind}
		if kind == api.StepCreate {
			full.Opts = modes()[1]
			words = nil
		}
		for _, name := range words {
			if isText(name) {
				full.S = append(full.S, "")
			} else {
				full.N = append(full.N, 0)
			}
		}
		short, more := api.Step{Kind: kind, Opts: full.Opts}, api.Step{Kind: kind, Opts: full.Opts, N: append(slices.Clone(full.N), 5, 6), S: append(slices.Clone(full.S), "x")}
		if kind != api.StepCreate {
			more.Opts = modes()[1]
		}
		last := []api.Step{{Kind: api.StepCount}, {Kind: api.StepImage}}
		want := play.Run(10000, slices.Concat(first, []api.Step{full}, last))
		for _, s := range []api.Step{short, more} {
			steps := slices.Concat(first, []api.Step{s}, last)
			if got := checkRun(t, "missing numbers", 10000, steps); !same(got, want) {
				t.Errorf("26: %+v answers %+v, want what %+v does: %+v", s, got, full, want)
			}
		}
	}
}

// TestEngineStays: closed, given up, or over a disk that is gone: it is the engine until another takes its place.
func TestEngineStays(t *testing.T) {
	const first = "create 64 4 1; insert 1 A; sync; insert 2 B; "
	for script, report := range map[string]string{
		"close; count; create 64 4 1; open; count; get 2":                                              "0; 0 2 2 2 2; 150; 0 2; 0 2 2 2 0; 0 B",
		"close; crash; open; count":                                                                    "0; 0; 0 2; 0 2 2 2 0",
		"crash; count; insert 3 C; count; create 64 4 1; count; open; count":                           "0; 0 2 2 2 1; 45; 0 2 2 2 1; 150; 0 2 2 2 1; 0 1; 0 1 1 1 0",
		"arm 1 0; insert 3 C; open; create 64 4 1; count; get 1; close; get 1; count":                  "0; 45; 45; 45; 0 2 2 2 1; 45; 45; 170; 0 2 2 2 1",
		"room 100000; insert 3 C; get 3; count; open; count; get 3; insert 3 A; get 3":                 "0; 0; 0 C; 0 3 3 3 1; 0 1; 0 1 1 1 0; 131; 0; 0 A",
		"room 100000; crash; insert 3 C; count; close; open; get 3":                                    "0; 0; 0; 0 3 3 3 1; 0; 0 1; 131",
		"room 5; room -1; room 1073741825; get 2; count; open":                                         "44; 13; 13; 0 B; 0 2 2 2 1; 0 2",
		"open; delete 1; open; count; close; open; count":                                              "0 2; 0; 0 1; 0 1 1 3 0; 0; 0 1; 0 1 1 3 0",
		"create 63 4 1; get 2; create 64 9 1; get 2; create 64 4 3; get 2":                             "10; 0 B; 12; 0 B; 81; 0 B",
		"spoil 5 1 manifest; open; get 2; inspect; spoil 5 1 manifest; open; create 64 0 2; get 2":     "0; 80; 0 B; 0 80 manifest; 0; 0 2; 150; 0 B",
		"arm 2 1; close; get 2; crash; open; count":                                                    "0; 0; 170; 0; 0 2; 0 2 2 2 0",
		"arm 1 1; close; get 2; count; crash 99 0 j1; open; count":                                     "0; 45; 170; 0 2 2 2 1; 0; 0 2; 0 2 2 2 0",
		"close; compact; sync; top 1 A; radius 1 A; groups 1 1; join 1; delete 1; ask get%201; send 1": "0; 170; 170; 170; 170; 170; 170; 170; 0 170%200; 170",
	} {
		checkScript(t, "26.2", 100000, first+script, "0; 0; 0; 0; "+report)
	}
}

// TestCrash: of each name the pair of numbers at the same place; Spoil is taken modulo 256.
func TestCrash(t *testing.T) {
	const first = "create 64 4 1; insert 1 A; insert 2 B; insert 3 C; "
	for script, report := range map[string]string{
		"crash; open":                                        "0; 0 0",
		"crash 999 0 j1; open; get 3":                        "0; 0 3; 0 C",
		"crash 999 256 j1; open":                             "0; 0 3",
		"crash 999 -256 j1; open":                            "0; 0 3",
		"crash 999 255 j1; open":                             "0; 0 2",
		"crash 999 -1 j1; open":                              "0; 0 2",
		"crash 999 257 j1; open":                             "0; 0 2",
		"crash -1 0 j1; open":                                "0; 0 0",
		"crash 9223372036854775807 0 j1; open":               "0; 0 3",
		"crash 999 0 j1 0 0 j1; open":                        "0; 0 3",
		"crash 0 0 j1 999 0 j1; open":                        "0; 0 0",
		"crash 999 0 j2; open":                               "0; 0 0",
		"crash 0 0 j2 999 0 j1 0 0 % 0 0 J1; open":           "0; 0 3",
		"crash 0 0 manifest 999 0 j1; open; crash; get 1":    "0; 0 3; 0; 45",
		"crash 999 0 j1; crash; crash 0 0 j1; open; get 2":   "0; 0; 0; 0 3; 0 B",
		"arm 1 1; insert 4 C; crash 999 0 j1; open; get 4":   "0; 45; 0; 0 4; 0 C",
		"arm 1 1; sync; crash 999 0 j1; open; arm 0 1; sync": "0; 45; 0; 0 3; 0; 0",
	} {
		checkScript(t, "26.3", 100000, first+script, "0; 0; 0; 0; "+report)
	}
	// Numbers without a name are let go; a name without numbers keeps nothing.
	for _, s := range []api.Step{{N: []int{999, 0, 999, 0}, S: []string{"j1"}}, {N: []int{999}, S: []string{"j1"}}, {N: []int{999, 0}, S: []string{"j1", "manifest", "j1"}}} {
		s.Kind = api.StepCrash
		steps := []api.Step{{Kind: api.StepCreate, Opts: modes()[0]}, {Kind: api.StepInsert, S: []string{codeA}}, s, {Kind: api.StepOpen}}
		if got := checkRun(t, "crash", 1000, steps); !same(got[3:], []api.Answer{{N: []int{1}}}) {
			t.Errorf("26.3: behind %+v: %+v", s, got[3])
		}
	}
	if got := play.Run(1000, []api.Step{{Kind: api.StepCreate, Opts: modes()[0]}, {Kind: api.StepInsert, S: []string{codeA}}, {Kind: api.StepCrash, S: []string{"j1"}}, {Kind: api.StepOpen}}); !same(got[3:], []api.Answer{{N: []int{0}}}) {
		t.Errorf("26.3: a name without numbers: %+v", got[3])
	}
}

// TestSend: the follower is made by the first send, with the engine's options, and asked where it is each time.
func TestSend(t *testing.T) {
	const first = "create 64 4 1; insert 1 A; insert 2 B; sync; "
	for script, report := range map[string]string{
		"follow 1 A; send 1; follow 9 A; send 1; send 1; follow 9 A; follow 1 B":                         "211; 0 1 1; 0 1 1 0 1 A; 0 1 2; 0 1 2; 0 2 2 0 1 1 2 A B; 0 2 2 0 2 B",
		"send 0; follow 9 A; send 1025; send -1; send 1024; follow 0 A; follow -1 A; follow 4097 A":      "13; 0 0 0; 13; 13; 0 1 2; 0 2 2; 100; 100",
		"send 9; follow 1 x; follow 1 %; follow 4096 A":                                                  "0 1 2; 11; 11; 0 2 2 0 1 1 2 A B",
		"close; send 9; follow 1 A; open; send 9; crash; open; send 9; follow 1 A":                       "0; 170; 0 0 0; 0 2; 0 1 0; 0; 0 2; 0 1 0; 0 0 0",
		"open; sync; send 9; delete 1; send 9; sync; send 9; follow 9 A":                                 "0 2; 0; 0 1 2; 0; 0 1 2; 0; 0 1 3; 0 3 1 1 2 B",
		"compact; send 1; follow 9 A; send 1; follow 9 A; send 1":                                        "0 0; 0 2 0; 0 0 0; 0 2 2; 0 2 2 0 1 1 2 A B; 0 1 2",
		"compact; send 1; insert 3 C; sync; send 1; send 1; send 1; send 1; follow 9 A":                  "0 0; 0 2 0; 0; 0; 221; 0 2 0; 0 2 0; 0 2 3; 0 3 3 0 1 1 2 64 3 A B C",
		"send 9; arm 1 1; sync; send 9; follow 1 A; crash; send 9; open; follow 1 B; insert 3 C; send 9": "0 1 2; 0; 45; 45; 0 2 2 0 1 A; 0; 45; 0 2; 0 2 2 0 2 B; 0; 220",
		"send 9; room 100000; send 9; spoil 0 1 manifest; open; send 9; follow 1 A":                      "0 1 2; 0; 0 1 2; 0; 80; 0 1 2; 0 2 2 0 1 A",
	} {
		checkScript(t, "26.4", 100000, first+script, "0; 0; 0; 0; "+report)
	}
}

// TestSpoil: a new disk with the same files, all durable, a byte of one of them changed; and its refusals.
func TestSpoil(t *testing.T) {
	const first = "create 64 4 1; insert 1 A; sync; insert 2 B; "
	for script, report := range map[string]string{
		"spoil 0 0 j1; insert 3 C; get 3; sync; count; open; count; get 3; get 2":             "0; 0; 0 C; 0; 0 3 3 3 3; 0 2; 0 2 2 2 0; 131; 0 B",
		"spoil 0 0 j2; spoil 0 0 %; spoil 0 0 J1; spoil 0 0 " + strings.Repeat("j", 33):       "42; 42; 42; 42",
		"spoil -1 0 j2; spoil -1 0 J1; spoil -1 0 j1; spoil 9223372036854775807 0 j1":         "42; 42; 13; 13",
		"arm 1 1; sync; spoil 0 0 j2; spoil -1 0 j1; spoil 0 0 j1; crash; spoil 0 0 j1; open": "0; 45; 45; 45; 45; 0; 0; 0 1",
		"spoil 0 0 j1; crash; open; get 2":                                                    "0; 0; 0 2; 0 B",
		"arm 1 1; spoil 0 0 j1; open; insert 3 C; insert 4 C":                                 "0; 0; 0 2; 0; 0",
		"spoil 0 256 j1; open":                                            "0; 0 2",
		"spoil 0 -256 j1; open":                                           "0; 0 2",
		"spoil 0 1 j1; open; count":                                       "0; 0 0; 0 0 0 0 0",
		"spoil 0 -1 j1; spoil 0 255 j1; open; count":                      "0; 0; 0 2; 0 2 2 2 0",
		"spoil 0 9223372036854775807 j1; inspect; spoil 0 -1 j1; inspect": "0; 0 37 j1; 0; 0",
		"spoil 3 1 manifest; open; inspect; repair; create 64 4 1; spoil 3 1 manifest; open":    "0; 80; 0 80 manifest; 80; 150; 0; 0 2",
		"compact; spoil 9 1 r2.1; inspect; open; spoil 9 3 r2.1; spoil 9 2 r2.1; inspect; open": "0 0; 0; 0 80 r2.1; 80; 0; 0; 0; 0 2",
		"room 300; spoil 0 0 j1; open; room 100000; spoil 0 0 j1; open; insert 3 C; delete 3":   "0; 0; 0 1; 0; 0; 0 1; 0; 0",
	} {
		checkScript(t, "26.5", 100000, first+script, "0; 0; 0; 0; "+report)
	}
	// The capacity is the old disk's: what was full is full.
	checkScript(t, "26.5", 160, "create 64 4 1; spoil 0 0 manifest; open; insert 1 A; insert 2 A; sync; insert 3 A; insert 4 A; insert 5 A; insert 6 A; insert 7 A; insert 8 A; spoil 0 0 j1; open; insert 9 A; insert 8 A; room 1000; open; insert 9 A", "0; 0; 0 0; 0; 0; 0; ?; ?; ?; ?; 44; 44; 0; ?; 44; 44; 0; ?; 0")
	// Each place of a file, from 0 to its size less one, and no other; each byte.
	create := []api.Step{{Kind: api.StepCreate, Opts: modes()[0]}, {Kind: api.StepInsert, S: []string{codeA}}}
	size := 0
	for place := -2; place < 100; place++ {
		got := play.Run(1000, append(slices.Clone(create), api.Step{Kind: api.StepSpoil, N: []int{place, 1}, S: []string{"j1"}}))
		if got[2].Code == api.OK {
			size++
		}
		if want := place >= 0 && place < size; (got[2].Code == api.OK) != want || !want && got[2].Code != api.ErrRange {
			t.Errorf("26.5: place %d: %d", place, got[2].Code)
		}
	}
	images := map[int]int{}
	for by := range 256 {
		images[play.Run(1000, append(slices.Clone(create), api.Step{Kind: api.StepSpoil, N: []int{size - 1, by}, S: []string{"j1"}}, api.Step{Kind: api.StepImage}))[3].N[0]]++
	}
	if size < 20 || len(images) != 256 {
		t.Errorf("26.5: %d places, %d images of 256 bytes", size, len(images))
	}
}

// TestLooks: image, inspect and repair want no engine, and look at the disk that is there now.
func TestLooks(t *testing.T) {
	image := func(d string) string { return fmt.Sprint("0 ", seal.Sum(d)) }
	checkScript(t, "26.6", 100000, "image; arm 1 1; create 64 4 1; image; inspect; repair; create 64 4 1; crash; image; create 64 4 1; inspect", image("D")+"; 0; 45; "+image("D\x02j1\x00\x00\x00\x00")+"; 45; 45; 45; 0; "+image("D\x02j1\x00\x00\x00\x00")+"; 0; 0")
	const first = "create 64 4 1; insert 1 A; insert 2 B; compact; insert 3 C; "
	for script, report := range map[string]string{
		"inspect; repair; get 3; inspect; count":                                                                "0; 0; 0 C; 0; 0 3 3 3 2",
		"spoil 0 1 r2.0; spoil 0 1 r2.3; inspect; open; repair; inspect; repair; open; count; radius 0 A":       "0; 0; 0 80 80 r2.0 r2.3; 80; 0 80 80 r2.0 r2.3; 0; 0; 0 3; 0 3 3 3 3; .. 0 1 A",
		"spoil 0 1 r2.0; spoil 0 1 r2.1; spoil 0 1 r2.2; spoil 0 1 r2.3; repair; open; get 1; get 3":            "0; 0; 0; 0; 0 80 80 80 80 r2.0 r2.1 r2.2 r2.3; 0 1; 131; 0 C",
		"spoil 0 1 j3; inspect; repair; inspect; open; get 3":                                                   "0; 0 37 j3; 0 37 j3; 0; 0 2; 131",
		"arm 5 1; compact; inspect; crash; inspect; repair; open; get 3":                                        "?; ?; 45; 0; ?; ?; ?; ?",
		"spoil 0 1 r2.0; open; insert 4 A; get 4; repair; get 4; insert 5 B; open; get 4; get 3":                "0; 80; 0; 0 A; 0 80 r2.0; 0 A; 0; 0 3; 131; 0 C",
		"delete 1; sync; crash; repair; get 1; open; get 1; inspect":                                            "0; 0; 0; 0; 45; 0 2; 131; 0",
		"room 100000; repair; insert 4 A; open; get 4":                                                          "0; 0; 0; 0 2; 131",
		"close; inspect; repair; image; open; image":                                                            "0; 0; 0; ?; 0 3; ?",
		"arm 1 0; sync; image; room 100000; inspect; open; get 3; get 2":                                        "0; 45; ?; 0; 0; 0 2; 131; 0 B",
		"arm 3 1; arm 0 1; compact; arm 2 1; arm -5 1; compact; compact; compact; arm 1 1; compact; insert 9 A": "0; 0; 0 0; 0; 0; 0 0; 0 0; 0 0; 0; 45; 45",
	} {
		checkScript(t, "26.6", 100000, first+script, "0; 0; 0; 0 0; 0; "+report)
	}
}

// TestRepairUnderAnEngine: an engine over files that a repair has exchanged goes on as its layers say, and the disk can be opened behind it.
func TestRepairUnderAnEngine(t *testing.T) {
	// The files that the engine's journal was are gone: what would go into it is refused, and M stays.
	checkScript(t, "26.6", 100000, "create 64 4 1; insert 1 A; insert 2 B; compact; insert 3 C; spoil 0 1 r2.0; repair; open; insert 4 A; spoil 0 1 r4.1; open; repair; get 4; insert 5 B; sync; compact; count; open; count",
		"0; 0; 0; 0 0; 0; 0; 0 80 r2.0; 0 3; 0; 0; 80; 0 80 r4.1; 0 A; 0; 0; 0 0; 0 5 3 5 5; 0 4; 0 4 3 4 4")
	checkScript(t, "26.6", 100000, "create 64 4 1; insert 1 A; insert 2 B; compact; insert 3 C; crash 999 0 j3; spoil 0 1 r2.0; open; count; repair; open; count; insert 4 A; count",
		"0; 0; 0; 0 0; 0; 0; 0; 80; 0 3 3 3 2; 0 80 r2.0; 0 3; 0 3 3 3 3; 0; 0 4 3 4 3")
}

// TestFollowersDisk: it has room for 16777216 bytes: a follower takes just so many updates as an engine with a disk of this capacity.
func TestFollowersDisk(t *testing.T) {
	o := api.Opts{Width: 1024, Mode: api.Treed}
	steps := []api.Step{{Kind: api.StepCreate, Opts: o}}
	code := strings.Repeat("k", 128)
	for i := range 125000 {
		steps = append(steps, api.Step{Kind: api.StepInsert, N: []int{i % 9}, S: []string{code}}, api.Step{Kind: api.StepDelete, N: []int{i % 9}})
	}
	steps = append(steps, api.Step{Kind: api.StepSync})
	want := 0
	for _, a := range play.Run(1<<24, steps)[1 : len(steps)-1] {
		if a.Code != api.OK {
			break
		}
		want++
	}
	from := len(steps)
	for range len(steps)/api.MaxBatch + 1 {
		steps = append(steps, api.Step{Kind: api.StepSend, N: []int{api.MaxBatch}})
	}
	steps = append(steps, api.Step{Kind: api.StepFollow, S: []string{code}})
	got := play.Run(1<<28, steps)
	full := slices.IndexFunc(got[from:], func(a api.Answer) bool { return a.Code == api.ErrFull })
	if full < 0 || want > from-2 {
		t.Fatalf("26: the world: %d updates fit on a disk, and all into the follower's", want)
	}
	if last := got[len(got)-1]; !same([]api.Answer{last}, []api.Answer{{N: []int{want, want % 2}}}) {
		t.Errorf("26: the world: the follower took %+v, want %d updates", last, want)
	}
}
