package journal_test

import (
	"encoding/binary"
	"hash/crc32"
	"slices"
	"strings"

	"kindred/api"
	"kindred/internal/sample"
	"kindred/seal"
)

// framed is chapter 3's frame, by the library's sums.
func framed(kind byte, payload string) string {
	table := crc32.MakeTable(crc32.Castagnoli)
	head := binary.BigEndian.AppendUint32([]byte{0xa7, kind}, uint32(len(payload)))
	body := append(slices.Clone(head), payload...)
	b := binary.LittleEndian.AppendUint32(head, crc32.Checksum(head, table))
	return string(binary.LittleEndian.AppendUint32(append(b, payload...), crc32.Checksum(body, table)))
}

// seven is a number in bytes of seven bits, by the library.
func seven(n int) string { return string(binary.AppendUvarint(nil, uint64(n))) }

// isWidth is DOC.md's word, by a list.
func isWidth(w int) bool {
	return slices.Contains([]int{64, 128, 192, 256, 320, 384, 448, 512, 576, 640, 704, 768, 832, 896, 960, 1024}, w)
}

// writeModel is 5.2.
func writeModel(u api.Update) (string, api.Errno) {
	if u.Seq < 1 || u.Seq > 1<<60 {
		return "", api.ErrSeq
	}
	if u.Kind != 1 && u.Kind != 2 {
		return "", api.ErrKind
	}
	if u.ID < 0 || u.ID > 1<<48 {
		return "", api.ErrID
	}
	if u.Kind == 1 && !isWidth(len(u.Code)*8) || u.Kind == 2 && len(u.Code) > 0 {
		return "", api.ErrCode
	}
	return framed(byte(u.Kind), seven(u.Seq)+seven(u.ID)+u.Code), api.OK
}

// readModel is 5.3, of what layer 3 answers.
func readModel(b string, w int) (api.Update, api.Errno) {
	var no api.Update
	if !isWidth(w) {
		return no, api.ErrWidth
	}
	kind, payload, end, e := seal.Parse(b, 0)
	if e != api.OK {
		return no, e
	}
	if end < len(b) {
		return no, api.ErrLong
	}
	if kind > 2 {
		return no, api.ErrKind
	}
	seq, at, e := seal.Var(payload, 0)
	if e != api.OK {
		return no, e
	}
	if seq == 0 || seq > 1<<60 {
		return no, api.ErrSeq
	}
	id, at, e := seal.Var(payload, at)
	if e != api.OK {
		return no, e
	}
	if id > 1<<48 {
		return no, api.ErrID
	}
	want := map[int]int{1: w / 8, 2: 0}
	if len(payload)-at != want[kind] {
		return no, api.ErrCode
	}
	return api.Update{Seq: int(seq), Kind: kind, ID: int(id), Code: payload[at:]}, api.OK
}

// lookModel is 5.5, of a file's bytes.
func lookModel(b string, seq, w int) ([]api.Update, int, api.Errno) {
	frames, end := seal.Frames(b)
	var list []api.Update
	for i, f := range frames {
		behind := end
		if i+1 < len(frames) {
			behind = frames[i+1].At
		}
		u, e := readModel(b[f.At:behind], w)
		if e != api.OK || u.Seq != seq+i+1 {
			return nil, 0, api.ErrCorrupt
		}
		list = append(list, u)
	}
	return list, end, api.OK
}

// model is a disk with one journal's file, and the journals that were made over it, by the words of chapters 4 and 5.
type model struct {
	capacity int
	width    int
	seq      int
	durable  string
	unsynced string
	off      bool
	ends     int // the power goes when so many writes were made
	done     bool
	writes   int
	age      int
}

// hand is a journal over a model.
type hand struct {
	m            *model
	age          int
	last, synced int
}

// write counts an accepted write, and tells whether the power is on behind it.
func (m *model) write() bool {
	m.writes++
	m.off = m.writes == m.ends
	return !m.off
}

func (h *hand) Append(u api.Update) api.Errno {
	m := h.m
	if m.off || h.age != m.age {
		return api.ErrDown
	}
	b, e := writeModel(u)
	if e != api.OK {
		return e
	}
	if u.Kind == 1 && len(u.Code) != m.width/8 {
		return api.ErrCode
	}
	if u.Seq-h.last != 1 {
		return api.ErrSeq
	}
	if len(m.durable+m.unsynced+b) > m.capacity {
		return api.ErrFull
	}
	m.unsynced += b
	if !m.write() {
		return api.ErrDown
	}
	h.last++
	return api.OK
}

func (h *hand) Sync() api.Errno {
	m := h.m
	if m.off || h.age != m.age || !m.write() {
		return api.ErrDown
	}
	m.durable, m.unsynced = m.durable+m.unsynced, ""
	h.synced = h.last
	return api.OK
}

func (m *model) look() ([]api.Update, int, api.Errno) {
	if m.off {
		return nil, 0, api.ErrDown
	}
	return lookModel(m.durable+m.unsynced, m.seq, m.width)
}

func (m *model) open() (*hand, []api.Update, api.Errno) {
	list, good, e := m.look()
	if e != api.OK {
		return nil, nil, e
	}
	if b := m.durable + m.unsynced; good < len(b) {
		on := m.write()
		if on || m.done {
			m.durable, m.unsynced = b[:min(good, len(m.durable))], b[min(good, len(m.durable)):good]
		}
		if !on {
			return nil, nil, api.ErrDown
		}
	}
	return &hand{m: m, age: m.age, last: m.seq + len(list), synced: m.seq}, list, api.OK
}

// crash keeps so many of the unsynced bytes, the last one turned by spoil.
func (m *model) crash(keep int, spoil byte) {
	m.durable += kept(m.unsynced, keep, spoil)
	m.unsynced, m.off, m.ends = "", false, 0
	m.age++
}

// kept is what a power cut leaves of unsynced bytes.
func kept(unsynced string, keep int, spoil byte) string {
	if keep <= 0 || unsynced == "" {
		return ""
	}
	b := []byte(unsynced[:min(keep, len(unsynced))])
	b[len(b)-1] ^= spoil
	return string(b)
}

// maker makes up updates and what else is tried.
type maker struct{ *sample.Source }

func from(seed int) maker { return maker{sample.From(seed)} }

// width is any.
func (g maker) width() int { return 64 * (1 + g.Below(16)) }

// number is from low to high, often at one of them.
func (g maker) number(low, high int) int {
	switch g.Below(4) {
	case 0:
		return low
	case 1:
		return high
	}
	return low + g.Below(min(high-low, 1<<g.Below(61))+1)
}

// update is one that goes into a journal for codes of w bits.
func (g maker) update(seq, w int) api.Update {
	u := api.Update{Seq: seq, Kind: api.Dead, ID: g.number(0, 1<<48)}
	if g.Below(3) > 0 {
		u.Kind, u.Code = api.Put, g.Text(w/8)
	}
	return u
}

// updates are n of them behind seq.
func (g maker) updates(n, seq, w int) []api.Update {
	list := make([]api.Update, n)
	for i := range list {
		list[i] = g.update(seq+1+i, w)
	}
	return list
}

// file is what stands in a journal with these updates.
func file(list []api.Update) string {
	var b strings.Builder
	for _, u := range list {
		f, _ := writeModel(u)
		b.WriteString(f)
	}
	return b.String()
}
