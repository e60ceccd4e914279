package play_test

import (
	"fmt"
	"slices"
	"strings"
	"testing"

	"kindred/api"
	"kindred/internal/sample"
	"kindred/play"
)

// TestWords: each byte alone, and beside others, in the one way there is.
func TestWords(t *testing.T) {
	for c := range 256 {
		text := string([]byte{byte(c)})
		want := fmt.Sprintf("%%%02X", c)
		if c >= 0x21 && c <= 0x7e && c != '%' {
			want = text
		}
		for _, x := range [][2]string{{text, want}, {"a" + text + "b", "a" + want + "b"}, {text + text, want + want}} {
			line := "ask " + x[1] + "\n"
			if got := play.Text([]api.Step{{Kind: api.StepAsk, S: []string{x[0]}}}); got != line {
				t.Errorf("26.7: %q is written as %q, want %q", x[0], got, line)
			}
			if s, n, e := play.Decode(line); e != api.OK || n != 0 || len(s) != 1 || len(s[0].S) != 1 || s[0].S[0] != x[0] {
				t.Errorf("26.7: %q is read as %v, %d, %d, want %q", line, s, n, e, x[0])
			}
		}
		// Each byte as it stands, and each way to write two digits behind '%'.
		checkDecode(t, "ask "+text)
		checkDecode(t, "ask a"+text)
		for d := range 256 {
			checkDecode(t, "ask %"+string([]byte{byte(c), byte(d)}))
		}
	}
	for text, word := range map[string]string{"": "%", "%": "%25", "%%": "%25%25", "%25": "%2525", "a b": "a%20b", "é": "%C3%A9", "\x00\xff": "%00%FF", "\n": "%0A", "\r\n": "%0D%0A", "#": "#", "-": "-", "~!": "~!"} {
		if got := play.Text([]api.Step{{Kind: api.StepAsk, S: []string{text}}}); got != "ask "+word+"\n" {
			t.Errorf("26.7: %q is written as %q, want %q", text, got, word)
		}
	}
}

// TestNoWords: what no text is written as.
func TestNoWords(t *testing.T) {
	for _, word := range []string{"", "%%", "a%", "%a", "%4", "%0", "%0a", "%c3", "%fF", "%Ff", "%41", "%21", "%7E", "%24", "%26", "%2", "%20%", "%2G", "%G2", "%-1", "%+1", "%00%", "%00%0", "%x20", "%:0", "%0:", "%@0", "%0@", "%/0", "é", "\x7f", "\x00", "\t", "\r", "a\r", "\xff", "%%20", "%25%", "%2525%41"} {
		for _, line := range []string{"ask " + word, "insert 1 " + word, "insert " + word + " a", "crash 1 2 a 3 4 " + word, word + " a", "ask a " + word, "nothing " + word, "count " + word, "get x " + word} {
			if s, n, e := play.Decode("\n" + line + "\ncount"); len(s) != 0 || n != 2 || e != api.ErrForm {
				t.Errorf("26.8: Decode(%q) = %v, %d, %d, want line 2, ErrForm", line, s, n, e)
			}
		}
	}
	for _, line := range []string{" ", "  ", " count", "count ", "get  7", "get 7 ", " #", " get 7", "crash ", "open  ", "\r", "count\r", "get 7\t", "\ufeffcount"} {
		if s, n, e := play.Decode(line); len(s) != 0 || n != 1 || e != api.ErrForm {
			t.Errorf("26.8: Decode(%q) = %v, %d, %d, want line 1, ErrForm", line, s, n, e)
		}
	}
}

// exact are lines of each kind with just what the table names, and their steps.
func exact() map[string]api.Step {
	n, s := func(n ...int) []int { return n }, func(s ...string) []string { return s }
	return map[string]api.Step{
		"create 64 4 1": {Kind: 1, Opts: api.Opts{Width: 64, Chunks: 4, Mode: 1}}, "create -1 0 99": {Kind: 1, Opts: api.Opts{Width: -1, Mode: 99}}, "open": {Kind: 2},
		"insert 5 a%20b": {Kind: 3, N: n(5), S: s("a b")}, "insert 0 %": {Kind: 3, N: n(0), S: s("")}, "insert 7 7": {Kind: 3, N: n(7), S: s("7")},
		"delete 5": {Kind: 4, N: n(5)}, "get -5": {Kind: 5, N: n(-5)}, "top 3 %00": {Kind: 6, N: n(3), S: s("\x00")}, "radius 64 x": {Kind: 7, N: n(64), S: s("x")},
		"count": {Kind: 8}, "sync": {Kind: 9}, "compact": {Kind: 10}, "close": {Kind: 11}, "arm 1 2": {Kind: 12, N: n(1, 2)},
		"crash": {Kind: 13}, "crash 1 2 j1": {Kind: 13, N: n(1, 2), S: s("j1")}, "crash 1 2 j1 3 4 % -5 6 7": {Kind: 13, N: n(1, 2, 3, 4, -5, 6), S: s("j1", "", "7")},
		"image": {Kind: 14}, "room 100": {Kind: 15, N: n(100)}, "inspect": {Kind: 16}, "repair": {Kind: 17}, "groups 1 2": {Kind: 18, N: n(1, 2)}, "join 1": {Kind: 19, N: n(1)},
		"send 9": {Kind: 20, N: n(9)}, "follow 2 A": {Kind: 21, N: n(2), S: s("A")}, "ask get%205": {Kind: 22, S: s("get 5")}, "spoil 1 2 j1": {Kind: 23, N: n(1, 2), S: s("j1")},
		"get 9223372036854775807": {Kind: 5, N: n(1<<63 - 1)}, "get -9223372036854775808": {Kind: 5, N: n(-1 << 63)},
	}
}

// TestExactLines: lines are steps, and steps are lines again.
func TestExactLines(t *testing.T) {
	for line, want := range exact() {
		for _, text := range []string{line, line + "\n", "\n" + line + "\n\n", "# x\n" + line + "\n#"} {
			if s, n, e := play.Decode(text); n != 0 || e != api.OK || !same(s, []api.Step{want}) {
				t.Errorf("26.8: Decode(%q) = %+v, %d, %d, want %+v", text, s, n, e, want)
			}
		}
		if got := play.Text([]api.Step{want}); got != line+"\n" {
			t.Errorf("26.9: Text(%+v) = %q, want %q", want, got, line)
		}
	}
}

// TestHowManyWords: just as many as the table names; of a crash threes.
func TestHowManyWords(t *testing.T) {
	for line := range exact() {
		words := strings.Split(line, " ")
		for k := 1; k < len(words); k++ {
			if words[0] == "crash" && k%3 == 1 {
				continue
			}
			if s, n, e := play.Decode(strings.Join(words[:k], " ")); len(s) != 0 || n != 1 || e != api.ErrStep {
				t.Errorf("26.8: the first %d words of %q: %v, %d, %d, want ErrStep", k, line, s, n, e)
			}
		}
		for _, more := range []string{" 1", " 1 2", " %", " x", strings.Repeat(" 1", 100), " " + line} {
			if words[0] == "crash" && (len(strings.Split(more, " "))-1)%3 == 0 {
				continue
			}
			if s, n, e := play.Decode(line + more); len(s) != 0 || n != 1 || e != api.ErrStep {
				t.Errorf("26.8: %.100q: %v, %d, %d, want ErrStep", line+more, s, n, e)
			}
		}
		for _, word := range []string{"%", strings.ToUpper(words[0]), words[0] + "s", words[0][1:], "x" + words[0], "0", "%20", words[0] + "%20", "crashes", "-", "step", "near", "seq"} {
			changed := strings.Join(append([]string{word}, words[1:]...), " ")
			if s, n, e := play.Decode(changed); len(s) != 0 || n != 1 || e != api.ErrStep {
				t.Errorf("26.8: %q: %v, %d, %d, want ErrStep", changed, s, n, e)
			}
		}
	}
}

// TestNumbers: one way to write each int, wherever a number stands; behind the words' number, ahead of nothing.
func TestNumbers(t *testing.T) {
	bad := []string{"%", "-", "+", "-0", "+0", "00", "01", "-01", "+1", "--1", "1-", "0x1", "1e0", "1.0", "1_0", "0_1", "a", "five", "%20", "1%20", "%201", "1%0A", "%C2%B9", "%FF",
		"9223372036854775808", "-9223372036854775809", "18446744073709551617", "99999999999999999999", "-99999999999999999999", "1" + strings.Repeat("0", 1000)}
	good := []string{"0", "1", "-1", "10", "-10", "4096", "9223372036854775807", "-9223372036854775808"}
	for _, form := range []string{"create ? 4 1", "create 64 ? 1", "create 64 4 ?", "insert ? x", "delete ?", "get ?", "top ? x", "radius ? x", "arm ? 1", "arm 1 ?", "crash ? 2 x", "crash 1 ? x", "crash 1 2 x ? 4 y", "crash 1 2 x 3 ? y", "room ?", "groups ? 1", "groups 1 ?", "join ?", "send ?", "follow ? x", "spoil ? 2 x", "spoil 1 ? x"} {
		for _, word := range bad {
			line := strings.Replace(form, "?", word, 1)
			if s, n, e := play.Decode("count\n" + line); len(s) != 0 || n != 2 || e != api.ErrOver {
				t.Errorf("26.8: %.100q: %v, %d, %d, want ErrOver", line, s, n, e)
			}
		}
		for _, word := range good {
			line := strings.Replace(form, "?", word, 1)
			if s, n, e := play.Decode(line); len(s) != 1 || n != 0 || e != api.OK || play.Text(s) != line+"\n" {
				t.Errorf("26.8: %q: %v, %d, %d", line, s, n, e)
			}
		}
	}
	// A text may be what no number is, and a number's word stands for itself as a text.
	for _, line := range []string{"insert 1 007", "insert 1 -", "crash 1 2 -0", "ask 01"} {
		if s, n, e := play.Decode(line); len(s) != 1 || n != 0 || e != api.OK || play.Text(s) != line+"\n" {
			t.Errorf("26.8: %q: %v, %d, %d", line, s, n, e)
		}
	}
}

// TestLines: which lines there are, and what number each has.
func TestLines(t *testing.T) {
	for _, x := range []struct {
		text  string
		steps int
		line  int
		e     api.Errno
	}{
		{"", 0, 0, 0}, {"\n", 0, 0, 0}, {"\n\n\n", 0, 0, 0}, {"#", 0, 0, 0}, {"#\n#x y  z\xff\x00%\n##", 0, 0, 0}, {"#count\n", 0, 0, 0},
		{"count", 1, 0, 0}, {"count\n", 1, 0, 0}, {"count\n\n", 1, 0, 0}, {"count\nopen", 2, 0, 0}, {"\n\ncount\n# x\n\nopen\n#", 2, 0, 0},
		{"x", 0, 1, api.ErrStep}, {"\nx", 0, 2, api.ErrStep}, {"\n\n#\nx\ny  z", 0, 4, api.ErrStep}, {"count\n\ncount\nget x\n", 0, 4, api.ErrOver}, {"count\n ", 0, 2, api.ErrForm}, {"count\n \n", 0, 2, api.ErrForm}, {"count\r\ncount\r\n", 0, 1, api.ErrForm},
		{strings.Repeat("count\n", 999) + "counts\n", 0, 1000, api.ErrStep}, {strings.Repeat("\n", 999) + "get -0", 0, 1000, api.ErrOver}, {strings.Repeat("#\n", 1<<16) + "\x00", 0, 1<<16 + 1, api.ErrForm}, {strings.Repeat("open\n\n", 5000), 5000, 0, 0},
	} {
		s, n, e := play.Decode(x.text)
		if len(s) != x.steps || n != x.line || e != x.e {
			t.Errorf("26.8: Decode(%.100q) = %d steps, line %d, %d; want %d, %d, %d", x.text, len(s), n, e, x.steps, x.line, x.e)
		}
		checkDecode(t, x.text)
	}
}

// TestOrderOfRefusals: no text, then no step, then no number; and the first line that is refused.
func TestOrderOfRefusals(t *testing.T) {
	for line, want := range map[string]api.Errno{
		"x  y": api.ErrForm, "nothing %": api.ErrStep, "nothing %41": api.ErrForm, "get x %4": api.ErrForm, "get x y": api.ErrStep, "get x": api.ErrOver, "insert x %61": api.ErrForm, "insert x": api.ErrStep, "insert x y z": api.ErrStep, "insert x y": api.ErrOver,
		"crash x y": api.ErrStep, "crash x y z": api.ErrOver, "crash 1 2 z x": api.ErrStep, "crash x 2 z  4 z": api.ErrForm, "create x 4": api.ErrStep, "create x y z": api.ErrOver, "count x ": api.ErrForm, "count x": api.ErrStep,
	} {
		if s, n, e := play.Decode(line + "\n  "); len(s) != 0 || n != 1 || e != want {
			t.Errorf("26.8: %q: %v, %d, %d, want %d", line, s, n, e, want)
		}
	}
}

// TestChangedBytes: each byte of a script made each other byte, left out, and put in twice.
func TestChangedBytes(t *testing.T) {
	text := "create 64 4 1\n# x\ninsert -10 %00%FF%25a\ncrash 1 2 j1 3 4 x\n\nspoil 0 256 %\nask get%201"
	for i := range len(text) {
		checkDecode(t, text[:i]+text[i+1:])
		checkDecode(t, text[:i]+text[i:i+1]+text[i:])
		checkDecode(t, text[:i])
		for c := range 256 {
			checkDecode(t, text[:i]+string([]byte{byte(c)})+text[i+1:])
		}
	}
}

// TestMadeUpTexts: texts of the pieces that lines are made of.
func TestMadeUpTexts(t *testing.T) {
	pieces := []string{" ", " ", " ", " ", "\n", "\n", "\n", "#", "%", "%00", "%41", "%2", "0", "1", "-1", "-0", "9223372036854775808", "x", "\x00", "\xff", "\t"}
	for _, row := range rows {
		word, _, _ := strings.Cut(row, " ")
		pieces = append(pieces, word, "\n"+word+" ", "\n"+word+" 1 ")
	}
	pieces = append(pieces, "\ncrash 1 2 x", " 3 4 y", "\ninsert 5 x\n")
	right := 0
	for seed := range 60000 {
		g := sample.From(seed)
		var b strings.Builder
		for range g.Below(8) {
			b.WriteString(pieces[g.Below(len(pieces))])
		}
		checkDecode(t, b.String())
		if s, _, e := play.Decode(b.String()); e == api.OK && len(s) > 0 {
			right++
		}
	}
	if right < 1000 {
		t.Errorf("%d texts with steps alone", right)
	}
}

// TestTextOfAnySteps: what is missing is 0 and the empty text, what is too much is let go.
func TestTextOfAnySteps(t *testing.T) {
	for i, row := range rows {
		for numbers := range 9 {
			for texts := range 5 {
				s := api.Step{Kind: i + 1, Opts: api.Opts{Width: -64, Chunks: 1 << 40, Mode: 3}}
				for n := range numbers {
					s.N = append(s.N, 10*n-20)
				}
				for n := range texts {
					s.S = append(s.S, []string{"j1", "", "a b", "%"}[n])
				}
				checkText(t, []api.Step{s})
				checkText(t, []api.Step{{Kind: 0}, s, {Kind: 24, N: s.N, S: s.S}, {Kind: -1}, s, {Kind: 1<<63 - 1}, {Kind: -1 << 63}})
				// What is written can be read, and is then written as it was.
				text := play.Text([]api.Step{s, s})
				if again, n, e := play.Decode(text); len(again) != 2 || n != 0 || e != api.OK || play.Text(again) != text {
					t.Errorf("26.9: %s: %+v is written as %q", row, s, text)
				}
			}
		}
	}
	for _, none := range [][]api.Step{nil, {}, {{}}, {{Kind: 24}, {Kind: -13}}} {
		if got := play.Text(none); got != "" {
			t.Errorf("26.9: Text(%v) = %q", none, got)
		}
	}
	if got, want := play.Text([]api.Step{{Kind: api.StepCrash, N: []int{1, 2, 3}}, {Kind: api.StepCrash, N: []int{1, 2, 3}, S: []string{"a", "b", "c"}}, {Kind: api.StepInsert}, {Kind: api.StepAsk}, {Kind: api.StepCreate, N: []int{1, 2, 3}}}), "crash\ncrash 1 2 a 3 0 b 0 0 c\ninsert 0 %\nask %\ncreate 0 0 0\n"; got != want {
		t.Errorf("26.9: %q, want %q", got, want)
	}
}

// TestNothingIsKept: lists that are handed in stay as they are, their spare room included; no two lists that come out share memory.
func TestNothingIsKept(t *testing.T) {
	n, s := []int{1, 2, 3, 4, 77, 78}, []string{"j1", "x", "spare"}
	steps := []api.Step{{Kind: api.StepCrash, N: n[:4], S: s[:2]}, {Kind: api.StepInsert, N: n[:0], S: s[:0]}, {Kind: api.StepCrash, N: n[:1], S: s[:1]}, {Kind: api.StepSpoil, N: n[:1]}}
	was := plainly(steps)
	all := steps[:2]
	play.Text(all)
	play.Run(1000, all)
	play.Text(steps)
	play.Run(1000, steps)
	if !same(steps, was) || !slices.Equal(n, []int{1, 2, 3, 4, 77, 78}) || !slices.Equal(s, []string{"j1", "x", "spare"}) {
		t.Errorf("R4: %v, %v, %v", steps, n, s)
	}
	text := strings.Repeat("crash 1 2 a 3 4 b\ninsert 1 a\n", 3)
	got, _, _ := play.Decode(text)
	for i := range got {
		got[i].N, got[i].S = append(got[i].N, 99), append(got[i].S, "more")
		got[i].N[0], got[i].S[0] = 98, "other"
	}
	for i := range got {
		if want := got[i%2]; !same(got[i:i+1], []api.Step{want}) || got[i].N[0] != 98 || got[i].N[1] == 98 {
			t.Errorf("R4: %v", got)
		}
	}
	if again, _, _ := play.Decode(text); play.Text(again) != text {
		t.Error("R4: what was read once is read otherwise then")
	}
}

// TestLongTexts: many lines, many words, many bytes.
func TestLongTexts(t *testing.T) {
	cuts := "crash" + strings.Repeat(" 1 2 x", 1<<17)
	s, n, e := play.Decode(cuts)
	if len(s) != 1 || n != 0 || e != api.OK || len(s[0].N) != 1<<18 || len(s[0].S) != 1<<17 || play.Text(s) != cuts+"\n" {
		t.Errorf("26.8: a long crash: %d steps, %d, %d", len(s), n, e)
	}
	long := api.Step{Kind: api.StepAsk, S: []string{sample.From(1).Text(1 << 20)}}
	if s, n, e := play.Decode(play.Text([]api.Step{long})); n != 0 || e != api.OK || !same(s, []api.Step{long}) {
		t.Errorf("26.9: a long text: %d, %d", n, e)
	}
	for text, want := range map[string]api.Errno{strings.Repeat(" ", 1<<24): api.ErrForm, "get" + strings.Repeat(" ", 1<<24): api.ErrForm, "get" + strings.Repeat(" 1", 1<<20): api.ErrStep, strings.Repeat("x", 1<<24): api.ErrStep, "get " + strings.Repeat("9", 1<<20): api.ErrOver} {
		if s, n, e := play.Decode(text); len(s) != 0 || n != 1 || e != want {
			t.Errorf("26.8: a long line: %d, %d, want %d", n, e, want)
		}
	}
}
