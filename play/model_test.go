package play_test

import (
	"fmt"
	"math/big"
	"reflect"
	"regexp"
	"slices"
	"strings"
	"testing"

	"kindred/api"
	"kindred/disk"
	"kindred/engine"
	"kindred/follow"
	"kindred/front"
	"kindred/group"
	"kindred/inspect"
	"kindred/internal/sample"
	"kindred/play"
	"kindred/seal"
)

// A second writing of the chapter, by other means: lines are held against expressions, words are written by fmt, steps are done by one switch over things of its own, a spoilt disk is made as an image.

// rows are what stands in a text, in the order of the kinds.
var rows = []string{
	"create WIDTH CHUNKS MODE", "open", "insert ID CODE", "delete ID", "get ID", "top K CODE", "radius R CODE", "count", "sync", "compact", "close",
	"arm AT DONE", "crash KEEP SPOIL NAME ..", "image", "room CAPACITY", "inspect", "repair", "groups R LEAST", "join R", "send MOST", "follow K CODE", "ask LINE", "spoil PLACE BYTE NAME",
}

// isText: a word of this name is a text; all others are numbers.
func isText(name string) bool { return name == "CODE" || name == "NAME" || name == "LINE" }

var (
	aWord   = regexp.MustCompile(`\A(?:%|(?:[!-$&-~]|%(?:[01][0-9A-F]|20|25|7F|[89A-F][0-9A-F]))+)\z`)
	aNumber = regexp.MustCompile(`\A(?:0|-?[1-9][0-9]*)\z`)
	escaped = regexp.MustCompile(`%[0-9A-F]{2}`)
)

func wordModel(text string) string {
	if text == "" {
		return "%"
	}
	var b strings.Builder
	for _, c := range []byte(text) {
		if strings.ContainsRune("!\"#$&'()*+,-./0123456789:;<=>?@ABCDEFGHIJKLMNOPQRSTUVWXYZ[\\]^_`abcdefghijklmnopqrstuvwxyz{|}~", rune(c)) {
			b.WriteByte(c)
		} else {
			fmt.Fprintf(&b, "%%%02X", c)
		}
	}
	return b.String()
}

func unwordModel(word string) string {
	if word == "%" {
		return ""
	}
	return escaped.ReplaceAllStringFunc(word, func(x string) string {
		n, _ := new(big.Int).SetString(x[1:], 16)
		return string([]byte{byte(n.Int64())})
	})
}

func decodeModel(text string) ([]api.Step, int, api.Errno) {
	var steps []api.Step
	for i, line := range strings.Split(text, "\n") {
		if line == "" || strings.HasPrefix(line, "#") {
			continue
		}
		s, e := lineModel(strings.Split(line, " "))
		if e != api.OK {
			return nil, i + 1, e
		}
		steps = append(steps, s)
	}
	return steps, 0, api.OK
}

func lineModel(words []string) (api.Step, api.Errno) {
	for _, w := range words {
		if !aWord.MatchString(w) {
			return api.Step{}, api.ErrForm
		}
	}
	for i, row := range rows {
		names := strings.Split(row, " ")
		if names[0] != words[0] {
			continue
		}
		names = names[1:]
		if len(names) > 0 && names[len(names)-1] == ".." {
			names = names[:0:0]
			for len(names)+1 < len(words) {
				names = append(names, "KEEP", "SPOIL", "NAME")
			}
		}
		if len(names) != len(words)-1 {
			return api.Step{}, api.ErrStep
		}
		s := api.Step{Kind: i + 1}
		for k, name := range names {
			text := unwordModel(words[k+1])
			if isText(name) {
				s.S = append(s.S, text)
				continue
			}
			n, ok := new(big.Int).SetString(text, 10)
			if !ok || !aNumber.MatchString(text) || !n.IsInt64() {
				return api.Step{}, api.ErrOver
			}
			s.N = append(s.N, int(n.Int64()))
		}
		if i == 0 {
			s = api.Step{Kind: 1, Opts: api.Opts{Width: s.N[0], Chunks: s.N[1], Mode: s.N[2]}}
		}
		return s, api.OK
	}
	return api.Step{}, api.ErrStep
}

func textModel(steps []api.Step) string {
	var b strings.Builder
	for _, s := range steps {
		if s.Kind < 1 || s.Kind > len(rows) {
			continue
		}
		names := strings.Split(rows[s.Kind-1], " ")
		n, t := append(slices.Clone(s.N), 0, 0, 0), append(slices.Clone(s.S), "")
		switch s.Kind {
		case api.StepCreate:
			n = []int{s.Opts.Width, s.Opts.Chunks, s.Opts.Mode}
		case api.StepCrash:
			names = names[:1]
			for range s.S {
				names, n = append(names, "KEEP", "SPOIL", "NAME"), append(n, 0, 0)
			}
		}
		b.WriteString(names[0])
		for _, name := range names[1:] {
			if isText(name) {
				fmt.Fprintf(&b, " %s", wordModel(t[0]))
				t = t[1:]
			} else {
				fmt.Fprintf(&b, " %d", n[0])
				n = n[1:]
			}
		}
		b.WriteByte('\n')
	}
	return b.String()
}

func playModel(capacity int, text string) string {
	steps, line, e := decodeModel(text)
	if e != api.OK {
		return fmt.Sprintf("line %d: %v\n", line, e)
	}
	if capacity < 0 || capacity > 1<<30 {
		return "no disk\n"
	}
	var b strings.Builder
	for _, a := range runModel(capacity, steps) {
		fmt.Fprintf(&b, "= %d", int(a.Code))
		for _, n := range a.N {
			fmt.Fprintf(&b, " %d", n)
		}
		for _, t := range a.S {
			fmt.Fprintf(&b, " %s", wordModel(t))
		}
		fmt.Fprintln(&b)
	}
	return b.String()
}

// model is a world.
type model struct {
	d, own *disk.Disk
	e      *engine.Engine
	f      *follow.Follower
}

func runModel(capacity int, steps []api.Step) []api.Answer {
	m := &model{d: disk.New(capacity), own: disk.New(1 << 24)}
	if m.d == nil {
		return nil
	}
	var answers []api.Answer
	for _, s := range steps {
		// What is missing counts as 0 and as the empty text.
		n, t := append(slices.Clone(s.N), 0, 0), append(slices.Clone(s.S), "")
		var a api.Answer
		switch k := s.Kind; {
		case m.e == nil && (k >= 3 && k <= 11 || k >= 18 && k <= 20 || k == 22):
			a.Code = api.ErrClosed
		case k >= 3 && k <= 11 || k == 22:
			a = m.ask(k, n, t)
		case k >= 18 && k <= 21:
			a = m.gather(k, n, t)
		default:
			a = m.change(s, n, t)
		}
		if a.Code != api.OK {
			a = api.Answer{Code: a.Code}
		}
		answers = append(answers, a)
	}
	return answers
}

// ask does what asks the engine.
func (m *model) ask(kind int, n []int, t []string) (a api.Answer) {
	var hits []api.Hit
	var x api.Stats
	switch kind {
	case 3:
		a.Code = m.e.Insert(n[0], t[0])
	case 4:
		a.Code = m.e.Delete(n[0])
	case 5:
		a.S = []string{""}
		a.S[0], a.Code = m.e.Get(n[0])
	case 6:
		hits, x, a.Code = m.e.TopK(t[0], n[0])
		a.N = []int{x.Shells, x.Steps, x.Codes, x.Pairs}
	case 7:
		hits, x, a.Code = m.e.Radius(t[0], n[0])
		a.N = []int{x.Shells, x.Steps, x.Codes, x.Pairs}
	case 8:
		a.N = []int{m.e.Count(), m.e.Codes(), m.e.Seq(), m.e.Synced()}
	case 9:
		a.Code = m.e.Sync()
	case 10:
		a.N = []int{0}
		if done, e := m.e.CompactStep(); done {
			a.N[0] = 1
		} else {
			a.Code = e
		}
	case 11:
		a.Code = m.e.Close()
	case 22:
		a.S = []string{front.New(m.e).Handle(t[0])}
	}
	return withHits(a, hits)
}

func withHits(a api.Answer, hits []api.Hit) api.Answer {
	for _, h := range hits {
		a.N, a.S = append(a.N, h.Dist, h.ID), append(a.S, h.Code)
	}
	return a
}

// gather does what asks for groups, joins and the follower.
func (m *model) gather(kind int, n []int, t []string) (a api.Answer) {
	switch kind {
	case 18:
		groups, e := group.Find(m.e, n[0], n[1])
		for _, g := range groups {
			a.N = slices.Concat(a.N, []int{len(g.IDs)}, g.IDs)
		}
		a.Code = e
	case 19:
		list, e := group.Near(m.e, n[0])
		for _, x := range list {
			a.N = append(a.N, x.Dist, x.A, x.B)
		}
		a.Code = e
	case 20:
		if m.f == nil {
			if m.f, a.Code = follow.Open(m.own, m.e.Opts()); a.Code != api.OK {
				m.f = nil
				return a
			}
		}
		b, e := follow.Offer(m.e, m.f.Number(), m.f.From(), n[0])
		if e == api.OK {
			e = m.f.Accept(b)
		}
		a = api.Answer{Code: e, N: []int{b.Kind, m.f.Number()}}
	case 21:
		if m.f == nil {
			return api.Answer{Code: api.ErrEmpty}
		}
		hits, e := m.f.TopK(t[0], n[0])
		a = withHits(api.Answer{Code: e, N: []int{m.f.Number(), m.f.Count()}}, hits)
	}
	return a
}

// change does what changes the disk, or asks it.
func (m *model) change(s api.Step, n []int, t []string) (a api.Answer) {
	var e *engine.Engine
	var d *disk.Disk
	switch s.Kind {
	case 1:
		e, a.Code = engine.Create(m.d, s.Opts)
	case 2:
		if e, a.Code = engine.Open(m.d); a.Code == api.OK {
			a.N = []int{e.Count()}
		}
	case 12:
		m.d.Arm(n[0], n[1] != 0)
	case 13:
		var cuts []api.Cut
		n = append(n, make([]int, 2*len(s.S))...)
		for i, name := range s.S {
			cuts = append(cuts, api.Cut{Name: name, Keep: n[2*i], Spoil: byte((n[2*i+1]%256 + 256) % 256)})
		}
		m.d.Crash(cuts)
	case 14:
		a.N = []int{int(seal.Sum(m.d.Image()))}
	case 15:
		d, a.Code = disk.Open(m.d.Image(), n[0])
	case 16, 17:
		look := inspect.Check
		if s.Kind == 17 {
			look = inspect.Repair
		}
		list, e := look(m.d)
		for _, x := range list {
			a.N, a.S = append(a.N, int(x.Code)), append(a.S, x.Name)
		}
		a.Code = e
	case 23:
		d, a.Code = m.spoil(t[0], n[0], n[1])
	}
	if e != nil {
		m.e = e
	}
	if d != nil {
		m.d = d
	}
	return a
}

// spoil writes the disk's files into an image, a byte of one of them changed.
func (m *model) spoil(name string, place, by int) (*disk.Disk, api.Errno) {
	if m.d.Down() {
		return nil, api.ErrDown
	}
	names := m.d.Names()
	if !slices.Contains(names, name) {
		return nil, api.ErrNone
	}
	image := "D"
	for _, x := range names {
		size, _ := m.d.Size(x)
		text, _ := m.d.Read(x, 0, size)
		b := []byte(text)
		if x == name {
			if place < 0 || place >= size {
				return nil, api.ErrRange
			}
			b[place] ^= byte(by)
		}
		image += string([]byte{byte(len(x))}) + x + string([]byte{byte(size >> 24), byte(size >> 16), byte(size >> 8), byte(size)}) + string(b)
	}
	return disk.Open(image, m.d.Room())
}

// plainly is a list of steps or answers without a difference between nil and empty lists.
func plainly[T any](list []T) []T {
	list = append([]T{}, list...)
	for i := range list {
		switch x := any(&list[i]).(type) {
		case *api.Step:
			x.N, x.S = append([]int{}, x.N...), append([]string{}, x.S...)
		case *api.Answer:
			x.N, x.S = append([]int{}, x.N...), append([]string{}, x.S...)
		}
	}
	return list
}

func same[T any](a, b []T) bool { return reflect.DeepEqual(plainly(a), plainly(b)) }

// checkRun holds what steps answer against the model.
func checkRun(t *testing.T, where string, capacity int, steps []api.Step) []api.Answer {
	t.Helper()
	got, want := play.Run(capacity, steps), runModel(capacity, steps)
	if len(got) != len(want) {
		t.Fatalf("26.1: %s: %d answers, want %d", where, len(got), len(want))
	}
	for i := range want {
		if !same(got[i:i+1], want[i:i+1]) {
			t.Fatalf("26.1: %s: step %d, %.300q: %+v, want %+v\n%s", where, i, play.Text(steps[i:i+1]), got[i], want[i], play.Text(steps[:i+1]))
		}
	}
	return got
}

// checkPlay holds a text against the model.
func checkPlay(t *testing.T, capacity int, text string) {
	t.Helper()
	if got, want := play.Play(capacity, text), playModel(capacity, text); got != want {
		t.Fatalf("26.10: Play(%d, %.500q) = %.500q, want %.500q", capacity, text, got, want)
	}
}

// checkDecode holds what a text is read as against the model.
func checkDecode(t *testing.T, text string) {
	t.Helper()
	got, line, e := play.Decode(text)
	want, wantLine, wantE := decodeModel(text)
	if !same(got, want) || line != wantLine || e != wantE {
		t.Fatalf("26.8: Decode(%.300q) = %.500v, %d, %d; want %.500v, %d, %d", text, got, line, e, want, wantLine, wantE)
	}
}

// checkText holds what steps are written as against the model.
func checkText(t *testing.T, steps []api.Step) {
	t.Helper()
	if got, want := play.Text(steps), textModel(steps); got != want {
		t.Fatalf("26.9: Text(%+v) = %.500q, want %.500q", steps, got, want)
	}
}

// checkExact: steps that have just what the table names come back as they were.
func checkExact(t *testing.T, steps []api.Step) {
	t.Helper()
	steps = slices.DeleteFunc(slices.Clone(steps), func(s api.Step) bool { return s.Kind < 1 || s.Kind > len(rows) })
	text := play.Text(steps)
	if got, line, e := play.Decode(text); !same(got, steps) || line != 0 || e != api.OK {
		t.Fatalf("26.9: Decode(%.500q) = %.500v, %d, %d; want %.500v", text, got, line, e, steps)
	}
}

// maker makes up scripts.
type maker struct {
	*sample.Source
	opts  api.Opts
	codes []string
	last  int // the kind of the last step
}

func makerOf(seed int, o api.Opts) *maker {
	m := &maker{Source: sample.From(seed), opts: o}
	for range 5 {
		m.codes = append(m.codes, m.Text(o.Width/8))
	}
	// Some that are near to one another.
	for _, c := range slices.Clone(m.codes) {
		b := []byte(c)
		b[m.Below(len(b))] ^= 1 << m.Below(8)
		m.codes = append(m.codes, string(b))
	}
	return m
}

func pick[T any](m *maker, list ...T) T { return list[m.Below(len(list))] }

// aboutOne is one in n times another thing.
func aboutOne[T any](m *maker, n int, usual T, others ...T) T {
	if m.Below(n) == 0 {
		return pick(m, others...)
	}
	return usual
}

func (m *maker) code() string {
	return aboutOne(m, 30, pick(m, m.codes...), "", "x", m.codes[0]+"x", m.Text(m.opts.Width/8))
}

func (m *maker) id() int {
	return aboutOne(m, 30, m.Below(12), -1, api.MaxID, api.MaxID+1, -1<<63, 1<<63-1)
}

func (m *maker) name() string {
	return pick(m, "j1", "j1", "j3", "j3", "j5", "j7", "manifest", "manifest", "manifest.new", "r2.0", "r2.1", "r4.0", "r4.1", "r6.0", "x", "", "A", strings.Repeat("a", 33), "j1")
}

func (m *maker) number() int { return pick(m, 0, 1, -1, 2, 255, 256, 1<<40, 1<<63-1, -1<<63) }

func (m *maker) line() string {
	return pick(m, "count", "seq", "get 5", "get 05", "", "top "+strings.Repeat("00", m.opts.Width/8)+" 3", "near 3 2", "insert 40 "+strings.Repeat("7f", m.opts.Width/8), "delete 40", "sync", "step", "\n", aboutOne(m, 10, "x", "close"))
}

// kind is what comes next: behind a cut of the power it is most often the disk's opening.
func (m *maker) kind() int {
	if m.last == api.StepCrash || m.last == api.StepClose || m.last == api.StepSpoil || m.last == api.StepRoom {
		if m.Below(3) > 0 {
			return pick(m, api.StepOpen, api.StepOpen, api.StepOpen, api.StepInspect, api.StepRepair)
		}
	}
	return pick(m,
		api.StepInsert, api.StepInsert, api.StepInsert, api.StepInsert, api.StepInsert, api.StepInsert, api.StepDelete, api.StepDelete, api.StepGet, api.StepTop, api.StepRadius, api.StepCount,
		api.StepSync, api.StepCompact, api.StepCompact, api.StepCompact, api.StepCompact, api.StepImage, api.StepSend, api.StepSend, api.StepFollow, api.StepGroups, api.StepJoin, api.StepAsk,
		api.StepRoom, api.StepSpoil, 1+m.Below(23), aboutOne(m, 10, api.StepCrash, 0, 24, -1, 1<<63-1))
}

// step is one that has just what the table names.
func (m *maker) step() api.Step {
	s := api.Step{Kind: m.kind()}
	m.last = s.Kind
	switch s.Kind {
	case api.StepCreate:
		s.Opts = aboutOne(m, 5, m.opts, api.Opts{}, api.Opts{Width: 63}, api.Opts{Width: 64, Chunks: 9, Mode: 1}, api.Opts{Width: 64, Mode: 2}, api.Opts{Width: -1, Chunks: -1, Mode: -1})
	case api.StepInsert:
		s.N, s.S = []int{m.id()}, []string{m.code()}
	case api.StepDelete, api.StepGet:
		s.N = []int{m.id()}
	case api.StepTop, api.StepFollow:
		s.N, s.S = []int{aboutOne(m, 8, m.Below(5), -1, 4096, 4097)}, []string{m.code()}
	case api.StepRadius:
		s.N, s.S = []int{aboutOne(m, 8, m.Below(m.opts.Width), -1, m.opts.Width, m.opts.Width+1)}, []string{m.code()}
	case api.StepArm:
		s.N = []int{aboutOne(m, 8, m.Below(9), -1), pick(m, 0, 1, -1, 256)}
	case api.StepCrash:
		for range m.Below(4) {
			s.N, s.S = append(s.N, aboutOne(m, 4, m.Below(100), m.number()), m.number()), append(s.S, m.name())
		}
	case api.StepRoom:
		s.N = []int{aboutOne(m, 4, 10000+m.Below(90000), 0, -1, 700, 1<<30, 1<<30+1)}
	case api.StepGroups:
		s.N = []int{aboutOne(m, 8, m.Below(m.opts.Width/4), -1, m.opts.Width, m.opts.Width+1), aboutOne(m, 8, 1+m.Below(3), 0, -1, 1<<20, 1<<20+1)}
	case api.StepJoin:
		s.N = []int{aboutOne(m, 8, m.Below(m.opts.Width/4), -1, m.opts.Width, m.opts.Width+1)}
	case api.StepSend:
		s.N = []int{aboutOne(m, 8, 1+m.Below(4), 0, -1, 1024, 1025)}
	case api.StepAsk:
		s.S = []string{m.line()}
	case api.StepSpoil:
		s.N, s.S = []int{aboutOne(m, 6, m.Below(60), m.number()), m.number()}, []string{m.name()}
	}
	return s
}

// script is a store with steps of all kinds.
func (m *maker) script(n int) []api.Step {
	steps := []api.Step{{Kind: api.StepCreate, Opts: m.opts}}
	if m.Below(5) == 0 {
		steps = steps[:0]
	}
	for range n {
		steps = append(steps, m.step())
	}
	return steps
}

// loosen takes numbers and texts from steps, and puts others behind.
func (m *maker) loosen(steps []api.Step) []api.Step {
	for i := range steps {
		s := &steps[i]
		switch m.Below(6) {
		case 0:
			s.N = s.N[:m.Below(len(s.N)+1)]
		case 1:
			s.S = s.S[:m.Below(len(s.S)+1)]
		case 2:
			s.N = append(s.N, m.number(), m.number())
		case 3:
			s.S = append(s.S, m.code())
		case 4:
			s.Opts = api.Opts{Width: m.number(), Chunks: m.number(), Mode: m.number()}
		}
	}
	return steps
}

// modes are stores of each mode, small and greater codes.
func modes() []api.Opts {
	return []api.Opts{{Width: 64, Chunks: 4, Mode: api.Chunked}, {Width: 64, Mode: api.Treed}, {Width: 128, Chunks: 5, Mode: api.Chunked}}
}

// TestMadeUpScripts: steps of all kinds, in every order, answer what the model does; each kind is done, and refused, often enough.
func TestMadeUpScripts(t *testing.T) {
	done, refused := map[int]int{}, map[int]int{}
	for seed := range 3000 {
		o := modes()[seed%3]
		m := makerOf(seed, o)
		steps := m.script(20 + m.Below(80))
		checkExact(t, steps)
		if seed%4 == 3 {
			steps = m.loosen(steps)
		}
		capacity := pick(m, 100000, 100000, 100000, 3000, 1000)
		for i, a := range checkRun(t, fmt.Sprint("seed ", seed), capacity, steps) {
			if a.Code == api.OK {
				done[steps[i].Kind]++
			} else {
				refused[steps[i].Kind]++
			}
		}
		checkText(t, steps)
		checkPlay(t, capacity, play.Text(steps))
	}
	for i, row := range rows {
		never := slices.Contains([]int{api.StepArm, api.StepCrash, api.StepImage}, i+1)
		if done[i+1] < 80 || (refused[i+1] < 80) != never {
			t.Errorf("%s: done %d times, refused %d times", row, done[i+1], refused[i+1])
		}
	}
}
