package front_test

import (
	"cmp"
	"encoding/hex"
	"fmt"
	"math/big"
	"regexp"
	"slices"
	"strings"
	"testing"

	"kindred/api"
	"kindred/disk"
	"kindred/engine"
)

// A second writing of the chapter, by other means: a line is held against one expression for each request, the answer is written by fmt, and what is near comes from a plain look at every pair.

// forms are the table's rows: what follows a first word, n a number, c a code, and what is asked for.
var forms = []struct {
	word    string
	follows string
	ask     func(e *engine.Engine, said []string) string
}{
	{"insert", "nc", func(e *engine.Engine, said []string) string {
		return bare(e.Insert(intOf(said[0]), codeOf(said[1])))
	}},
	{"delete", "n", func(e *engine.Engine, said []string) string { return bare(e.Delete(intOf(said[0]))) }},
	{"get", "n", func(e *engine.Engine, said []string) string {
		code, f := e.Get(intOf(said[0]))
		if f != api.OK {
			return bare(f)
		}
		return fmt.Sprintf("0 0 %x", code)
	}},
	{"top", "cn", func(e *engine.Engine, said []string) string {
		hits, _, f := e.TopK(codeOf(said[0]), intOf(said[1]))
		return toldModel(hits, f)
	}},
	{"radius", "cn", func(e *engine.Engine, said []string) string {
		hits, _, f := e.Radius(codeOf(said[0]), intOf(said[1]))
		return toldModel(hits, f)
	}},
	{"near", "nn", nearModel},
	{"count", "", func(e *engine.Engine, _ []string) string { return fmt.Sprintf("0 2 %d %d", e.Count(), e.Codes()) }},
	{"seq", "", func(e *engine.Engine, _ []string) string { return fmt.Sprintf("0 2 %d %d", e.Seq(), e.Synced()) }},
	{"sync", "", func(e *engine.Engine, _ []string) string { return bare(e.Sync()) }},
	{"step", "", func(e *engine.Engine, _ []string) string {
		done, f := e.CompactStep()
		switch {
		case f != api.OK:
			return bare(f)
		case done:
			return "0 1 1"
		}
		return "0 1 0"
	}},
	{"close", "", func(e *engine.Engine, _ []string) string { return bare(e.Close()) }},
}

// expressions are the forms' lines, in their order.
var expressions = func() []*regexp.Regexp {
	var list []*regexp.Regexp
	for _, x := range forms {
		line := strings.NewReplacer("n", " (0|-?[1-9][0-9]*)", "c", " ((?:[0-9a-f]{2})+)").Replace(x.follows)
		list = append(list, regexp.MustCompile(`\A`+x.word+line+`\z`))
	}
	return list
}()

// handleModel is what a line answers. One that is refused with ErrLine asks the engine nothing.
func handleModel(e *engine.Engine, line string) string {
	for i, x := range forms {
		said := expressions[i].FindStringSubmatch(line)
		if said != nil && intsIn(x.follows, said[1:]) {
			return x.ask(e, said[1:])
		}
	}
	return "250 0"
}

// intsIn: what stands at a number's place goes into an int.
func intsIn(follows string, said []string) bool {
	for i, word := range said {
		if n, ok := new(big.Int).SetString(word, 10); follows[i] == 'n' && !(ok && n.IsInt64()) {
			return false
		}
	}
	return true
}

// bare is an answer without numbers and codes.
func bare(f api.Errno) string { return fmt.Sprintf("%d 0", int(f)) }

func codeOf(word string) string {
	b, err := hex.DecodeString(word)
	if err != nil {
		panic(err)
	}
	return string(b)
}

func intOf(word string) int {
	n, ok := new(big.Int).SetString(word, 10)
	if !ok || !n.IsInt64() {
		panic("no int: " + word)
	}
	return int(n.Int64())
}

func toldModel(hits []api.Hit, f api.Errno) string {
	if f != api.OK {
		return bare(f)
	}
	if len(hits) > 65536 {
		return "43 0"
	}
	var line strings.Builder
	fmt.Fprintf(&line, "0 %d", 2*len(hits))
	for _, h := range hits {
		fmt.Fprintf(&line, " %d %d", h.Dist, h.ID)
	}
	for _, h := range hits {
		fmt.Fprintf(&line, " %x", h.Code)
	}
	return line.String()
}

// nearModel looks at every pair but the one itself.
func nearModel(e *engine.Engine, said []string) string {
	id, k := intOf(said[0]), intOf(said[1])
	code, f := e.Get(id)
	if f != api.OK {
		return bare(f)
	}
	if k < 0 || k > 4095 {
		return "100 0"
	}
	pairs, f := e.Pairs(0, 1<<20)
	if f != api.OK {
		return bare(f)
	}
	var others []api.Hit
	for _, p := range pairs {
		if p.ID != id {
			others = append(others, api.Hit{Dist: apart(p.Code, code), ID: p.ID, Code: p.Code})
		}
	}
	slices.SortFunc(others, func(a, b api.Hit) int {
		return cmp.Or(cmp.Compare(a.Dist, b.Dist), cmp.Compare(a.ID, b.ID))
	})
	return toldModel(others[:min(k, len(others))], api.OK)
}

// apart is in how many bits two codes are unlike.
func apart(a, b string) int {
	d := 0
	for i := range 8 * len(a) {
		if a[i/8]>>(7-i%8)&1 != b[i/8]>>(7-i%8)&1 {
			d++
		}
	}
	return d
}

// z is a code of 64 bits, its last byte this one.
func z(last byte) string { return strings.Repeat("\x00", 7) + string([]byte{last}) }

// store is an engine, and its disk.
type store struct {
	t *testing.T
	d *disk.Disk
	e *engine.Engine
}

func storeOf(t *testing.T, o api.Opts, pairs ...api.Pair) *store {
	t.Helper()
	return storeWithRoom(t, 1<<28, o, pairs...)
}

func storeWithRoom(t *testing.T, capacity int, o api.Opts, pairs ...api.Pair) *store {
	t.Helper()
	s := &store{t: t, d: disk.New(capacity)}
	e, f := engine.Create(s.d, o)
	if f != api.OK {
		t.Fatalf("17.1: Create(%v): %d", o, f)
	}
	s.e = e
	for _, p := range pairs {
		if f := e.Insert(p.ID, p.Code); f != api.OK {
			t.Fatalf("17.4: Insert(%d): %d", p.ID, f)
		}
	}
	return s
}

func (s *store) reopen() {
	s.t.Helper()
	e, f := engine.Open(s.d)
	if f != api.OK {
		s.t.Fatalf("17.1: Open: %d", f)
	}
	s.e = e
}

// seen is all that a disk and its engine tell of themselves.
func (s *store) seen() string {
	var b strings.Builder
	fmt.Fprintln(&b, s.d.Down(), s.d.Used(), s.d.Writes(), s.d.Age(), s.d.Image())
	for _, name := range s.d.Names() {
		n, _ := s.d.Size(name)
		x, _ := s.d.Read(name, 0, n)
		fmt.Fprintln(&b, name, x)
	}
	_, closed := s.e.Get(-1)
	fmt.Fprintln(&b, s.e.Count(), s.e.Codes(), s.e.Seq(), s.e.Synced(), s.e.Opts(), closed)
	return b.String()
}

// modes are stores of codes of 64 bits.
func modes() []api.Opts {
	return []api.Opts{{Width: 64, Chunks: 8, Mode: api.Chunked}, {Width: 64, Mode: api.Treed}}
}
