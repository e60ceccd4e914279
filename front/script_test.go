package front_test

import (
	"strings"
	"testing"

	"kindred/front"
	"kindred/internal/sample"
)

// scriptModel is what a text answers: its lines, each asked by the model.
func scriptModel(s *store, text string) string {
	lines := strings.Split(text, "\n")
	var answers strings.Builder
	for _, line := range lines {
		if len(line) > 0 && !strings.HasPrefix(line, "#") {
			answers.WriteString(handleModel(s.e, line) + "\n")
		}
	}
	return answers.String()
}

func (w *twins) script(text string) string {
	w.t.Helper()
	want := scriptModel(w.b, text)
	if got := w.f.Script(text); got != want {
		w.t.Fatalf("25.5: Script(%.300q) = %.300q, want %.300q", text, got, want)
	}
	if w.a.seen() != w.b.seen() {
		w.t.Fatalf("25.6: Script(%.300q) has done something else than the engine's calls", text)
	}
	return want
}

func TestScript(t *testing.T) {
	for _, o := range modes() {
		for text, want := range map[string]string{
			"": "", "\n": "", "\n\n\n": "", "#": "", "#\n": "", "# a\n\n#b": "", "##": "", "#count\n": "",
			"count": "0 2 3 2\n", "count\n": "0 2 3 2\n", "\ncount": "0 2 3 2\n", "count\n\n": "0 2 3 2\n", "\n\ncount\n\n": "0 2 3 2\n",
			"count\ncount": "0 2 3 2\n0 2 3 2\n", "count\n#\nseq\n": "0 2 3 2\n0 2 3 0\n",
			" ": "250 0\n", " \n": "250 0\n", " #": "250 0\n", "\r\n": "250 0\n", "count\r\n": "250 0\n", "count\r\ncount\n": "250 0\n0 2 3 2\n",
			"count #": "250 0\n", "count\n ": "0 2 3 2\n250 0\n", "x\nget 9\ny": "250 0\n131 0\n250 0\n", "\x00": "250 0\n", "count\vseq": "250 0\n", "count\u2028seq": "250 0\n", "count\\nseq": "250 0\n",
			"insert 8 T\nget 8\ndelete 8\nget 8\nseq": "0 0\n0 0 T\n0 0\n131 0\n0 2 5 0\n", "near 5 1\nradius T 1\n": "0 2 0 7 Z\n0 2 1 6 O\n",
			"step\nstep\nseq\nclose\nsync\ncount\nx\n#\n": "0 1 0\n0 1 1\n0 2 3 3\n0 0\n170 0\n0 2 3 2\n250 0\n",
			"get\n5\n": "250 0\n250 0\n", "get 5\n6": "0 0 Z\n250 0\n",
		} {
			w := twinsOf(t, o, pairs()...)
			if got := w.script(long(text)); got != long(want) {
				t.Errorf("25.5: Script(%q) = %q, want %q", text, got, long(want))
			}
		}
	}
}

// TestScriptsInARow: two texts, the first of which is empty or ends with a newline, are the one and then the other.
func TestScriptsInARow(t *testing.T) {
	for _, o := range modes() {
		for seed := range 40 {
			g := sample.From(258 + seed)
			parts := []string{"", "\n", "#", "# count", " "}
			for range 10 {
				parts = append(parts, madeUp(g, 8))
			}
			text := func() string {
				var b strings.Builder
				for range g.Below(12) {
					b.WriteString(parts[g.Below(len(parts))])
					b.WriteString("\n\n "[g.Below(3):][:1])
				}
				return b.String()
			}
			first, second := text(), text()
			if first != "" && !strings.HasSuffix(first, "\n") {
				first += "\n"
			}
			w := twinsOf(t, o, pairs()...)
			apart := storeOf(t, o, pairs()...)
			f := front.New(apart.e)
			if a, b := f.Script(first), f.Script(second); w.script(first+second) != a+b {
				t.Fatalf("25.8: Script(%q) and Script(%q)", first, second)
			}
			if apart.seen() != w.a.seen() {
				t.Fatalf("25.8: %q and %q have left something else", first, second)
			}
		}
	}
}

// TestLongScript: many lines, and a line with very many blanks.
func TestLongScript(t *testing.T) {
	f := front.New(storeOf(t, modes()[0], pairs()...).e)
	if got, want := f.Script(strings.Repeat("get 6\n\n# x\n", 20000)), strings.Repeat(long("0 0 O\n"), 20000); got != want {
		t.Error("25.5: many lines")
	}
	checkLine(t, "blanks", f, "get"+strings.Repeat(" ", 1<<24), "250 0")
	checkLine(t, "blanks", f, strings.Repeat(" ", 1<<24), "250 0")
	if got := f.Script(strings.Repeat("\n", 1<<20) + "#" + strings.Repeat("#\n", 1<<20)); got != "" {
		t.Errorf("25.5: %.100q of nothing", got)
	}
}
