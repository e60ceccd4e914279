package disk_test

import (
	"encoding/binary"
	"fmt"
	"maps"
	"math"
	"slices"
	"strings"

	"kindred/api"
	"kindred/disk"
	"kindred/internal/sample"
)

// machine is what a disk and the model of one have in common.
type machine interface {
	Image() string
	Names() []string
	Size(name string) (int, api.Errno)
	Read(name string, at, n int) (string, api.Errno)
	Create(name string) api.Errno
	Append(name, data string) api.Errno
	Sync(name string) api.Errno
	Cut(name string, n int) api.Errno
	Rename(old, to string) api.Errno
	Delete(name string) api.Errno
	Arm(n int, done bool)
	Down() bool
	Crash(cuts []api.Cut)
	Age() int
	Writes() int
	Used() int
	Room() int
}

var _ machine = (*disk.Disk)(nil)

// model is the chapter's words a second time: every write makes all files anew.
type model struct {
	files    map[string]content
	capacity int
	off      bool
	ends     int // the count of writes at which the power goes, if it is above those that were
	done     bool
	age      int
	writes   int
}

type content struct{ durable, unsynced string }

func (c content) all() string { return c.durable + c.unsynced }

func newModel(capacity int) *model { return &model{capacity: capacity, files: map[string]content{}} }

// with is the files as they would be with a file, or without one.
func (m *model) with(f func(files map[string]content)) map[string]content {
	next := maps.Clone(m.files)
	f(next)
	return next
}

// accept makes the files those of next, but for 4.11.
func (m *model) accept(kind string, next map[string]content) api.Errno {
	m.writes++
	if m.writes != m.ends {
		m.files = next
		return api.OK
	}
	m.off = true
	if kind == "append" || kind == "name" && m.done {
		m.files = next
	}
	return api.ErrDown
}

func good(name string) bool {
	return name != "" && len(name) <= 32 && strings.Trim(name, "abcdefghijklmnopqrstuvwxyz0123456789.") == ""
}

func (m *model) first(names ...string) api.Errno {
	if m.off {
		return api.ErrDown
	}
	for _, name := range names {
		if !good(name) {
			return api.ErrName
		}
	}
	return api.OK
}

func (m *model) old(name string, others ...string) (content, api.Errno) {
	if e := m.first(append(others, name)...); e != api.OK {
		return content{}, e
	}
	c, ok := m.files[name]
	if !ok {
		return content{}, api.ErrNone
	}
	return c, api.OK
}

func (m *model) Image() string {
	b := []byte{'D'}
	for _, name := range slices.Sorted(maps.Keys(m.files)) {
		b = append(append(b, byte(len(name))), name...)
		b = binary.BigEndian.AppendUint32(b, uint32(len(m.files[name].durable)))
		b = append(b, m.files[name].durable...)
	}
	return string(b)
}

func (m *model) Names() []string {
	if m.off {
		return nil
	}
	return slices.Sorted(maps.Keys(m.files))
}

func (m *model) Size(name string) (int, api.Errno) {
	c, e := m.old(name)
	return len(c.all()), e
}

func (m *model) Read(name string, at, n int) (string, api.Errno) {
	c, e := m.old(name)
	if e != api.OK {
		return "", e
	}
	for from := range len(c.all()) + 1 {
		for size := range len(c.all()) - from + 1 {
			if from == at && size == n {
				return c.all()[from:][:size], api.OK
			}
		}
	}
	return "", api.ErrRange
}

func (m *model) Create(name string) api.Errno {
	if e := m.first(name); e != api.OK {
		return e
	}
	if _, ok := m.files[name]; ok {
		return api.ErrExists
	}
	if len(m.files) == 4096 {
		return api.ErrMany
	}
	return m.accept("name", m.with(func(files map[string]content) { files[name] = content{} }))
}

func (m *model) Append(name, data string) api.Errno {
	c, e := m.old(name)
	if e != api.OK {
		return e
	}
	if len(c.all()+data) > 1<<28 {
		return api.ErrBig
	}
	if data != "" && m.Used()+len(data) > m.capacity {
		return api.ErrFull
	}
	return m.accept("append", m.with(func(files map[string]content) { files[name] = content{c.durable, c.unsynced + data} }))
}

func (m *model) Sync(name string) api.Errno {
	c, e := m.old(name)
	if e != api.OK {
		return e
	}
	return m.accept("sync", m.with(func(files map[string]content) { files[name] = content{c.all(), ""} }))
}

func (m *model) Cut(name string, n int) api.Errno {
	c, e := m.old(name)
	if e != api.OK {
		return e
	}
	if n < 0 || n > len(c.all()) {
		return api.ErrRange
	}
	left := content{c.all()[:n], ""}
	if n > len(c.durable) {
		left = content{c.durable, c.all()[len(c.durable):n]}
	}
	return m.accept("name", m.with(func(files map[string]content) { files[name] = left }))
}

func (m *model) Rename(old, to string) api.Errno {
	c, e := m.old(old, to)
	if e != api.OK {
		return e
	}
	return m.accept("name", m.with(func(files map[string]content) {
		delete(files, old)
		files[to] = c
	}))
}

func (m *model) Delete(name string) api.Errno {
	if _, e := m.old(name); e != api.OK {
		return e
	}
	return m.accept("name", m.with(func(files map[string]content) { delete(files, name) }))
}

func (m *model) Arm(n int, done bool) {
	if m.off {
		return
	}
	m.ends, m.done = 0, done
	if n >= 1 && n < math.MaxInt-m.writes {
		m.ends = m.writes + n
	}
}

func (m *model) Crash(cuts []api.Cut) {
	next := map[string]content{}
	for name, c := range m.files {
		i := slices.IndexFunc(cuts, func(c api.Cut) bool { return c.Name == name })
		if i >= 0 && cuts[i].Keep > 0 && c.unsynced != "" {
			b := []byte(c.unsynced)
			if cuts[i].Keep < len(b) {
				b = b[:cuts[i].Keep]
			}
			b[len(b)-1] ^= cuts[i].Spoil
			c.durable += string(b)
		}
		next[name] = content{c.durable, ""}
	}
	m.files, m.off, m.ends = next, false, 0
	m.age++
}

func (m *model) Down() bool  { return m.off }
func (m *model) Age() int    { return m.age }
func (m *model) Writes() int { return m.writes }
func (m *model) Room() int   { return m.capacity }

func (m *model) Used() int {
	n := 0
	for _, c := range m.files {
		n += len(c.all())
	}
	return n
}

// pool are the names that calls are made with: those that can be names, and others.
var pool = []string{"a", "b", "b.", "b.0", "0", ".", strings.Repeat("z", 32), "", "A", "b/", "\x00", "ä", strings.Repeat("z", 33)}

// call is one call of a script.
type call struct {
	what     string
	name, to string
	data     string
	at, n    int
	done     bool
	cuts     []api.Cut
}

// on makes the call, and tells what it answers.
func (c call) on(m machine) string {
	var e api.Errno
	switch c.what {
	case "Create":
		e = m.Create(c.name)
	case "Append":
		e = m.Append(c.name, c.data)
	case "Sync":
		e = m.Sync(c.name)
	case "Cut":
		e = m.Cut(c.name, c.n)
	case "Rename":
		e = m.Rename(c.name, c.to)
	case "Delete":
		e = m.Delete(c.name)
	case "Arm":
		m.Arm(c.n, c.done)
	case "Crash":
		m.Crash(c.cuts)
	case "Size":
		n, e := m.Size(c.name)
		return fmt.Sprint(n, int(e))
	case "Read":
		s, e := m.Read(c.name, c.at, c.n)
		return fmt.Sprintf("%x %d", s, int(e))
	}
	return fmt.Sprint(int(e))
}

// told is what a disk's files tell, by names of the pool.
func told(m machine) string {
	var b strings.Builder
	fmt.Fprintf(&b, "names %q used %d room %d down %v image %x", m.Names(), m.Used(), m.Room(), m.Down(), m.Image())
	for _, name := range pool {
		n, e := m.Size(name)
		s, f := m.Read(name, 0, n)
		fmt.Fprintf(&b, " %q: %d %d, %x %d", name, n, int(e), s, int(f))
	}
	return b.String()
}

// toldAll has age and writes too.
func toldAll(m machine) string {
	return fmt.Sprintf("%s age %d writes %d", told(m), m.Age(), m.Writes())
}

// script makes up calls.
type script struct{ *sample.Source }

func newScript(seed int) script { return script{sample.From(seed)} }

// name is mostly one that can be.
func (s script) name() string {
	if s.Below(12) == 0 {
		return pool[s.Below(len(pool))]
	}
	return pool[s.Below(5)]
}

func (s script) cuts() []api.Cut {
	cuts := make([]api.Cut, s.Below(5))
	for i := range cuts {
		cuts[i] = api.Cut{Name: s.name(), Keep: s.Below(12) - 2, Spoil: byte(s.Next()) & byte(s.Next())}
	}
	return cuts
}

// call makes up a call; while the power is off it is often a Crash.
func (s script) call(off bool) call {
	c := call{name: s.name(), to: s.name(), data: s.Text(s.Below(9)), at: s.Below(14) - 1, n: s.Below(14) - 1, done: s.Below(2) == 0}
	switch {
	case off && s.Below(3) == 0 || s.Below(25) == 0:
		c.what, c.cuts = "Crash", s.cuts()
	case s.Below(20) == 0:
		c.what, c.n = "Arm", s.Below(8)-1
	default:
		c.what = []string{"Create", "Create", "Append", "Append", "Append", "Sync", "Cut", "Rename", "Delete", "Size", "Read"}[s.Below(11)]
	}
	return c
}
