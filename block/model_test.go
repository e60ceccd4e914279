package block_test

import (
	"bytes"
	"cmp"
	"encoding/binary"
	"hash/crc32"
	"slices"
	"strings"

	"kindred/api"
	"kindred/internal/sample"
	"kindred/seal"
)

var castagnoli = crc32.MakeTable(crc32.Castagnoli)

// framed is chapter 3's frame, by the library's sums.
func framed(kind byte, payload string) string {
	head := binary.BigEndian.AppendUint32([]byte{0xa7, kind}, uint32(len(payload)))
	body := append(slices.Clone(head), payload...)
	b := binary.LittleEndian.AppendUint32(head, crc32.Checksum(head, castagnoli))
	return string(binary.LittleEndian.AppendUint32(append(b, payload...), crc32.Checksum(body, castagnoli)))
}

// seven are numbers in bytes of seven bits, by the library.
func seven(numbers ...int) string {
	var b []byte
	for _, n := range numbers {
		b = binary.AppendUvarint(b, uint64(n))
	}
	return string(b)
}

// four is a number in four bytes, by the library.
func four(n int) string { return string(binary.BigEndian.AppendUint32(nil, uint32(n))) }

// isWidth is DOC.md's word, by a list.
func isWidth(w int) bool {
	return slices.Contains([]int{64, 128, 192, 256, 320, 384, 448, 512, 576, 640, 704, 768, 832, 896, 960, 1024}, w)
}

// order is by Value, then Code (bytewise), then ID.
func order(a, b api.Entry) int {
	return cmp.Or(cmp.Compare(a.Value, b.Value), bytes.Compare([]byte(a.Code), []byte(b.Code)), cmp.Compare(a.ID, b.ID))
}

// refusal is 6.1.
func refusal(h api.Head, list []api.Entry) api.Errno {
	if !isWidth(h.Width) {
		return api.ErrWidth
	}
	if !(0 <= h.Table && h.Table <= 127 && 1 <= h.Bits && h.Bits <= 32 && 0 <= h.Lo && h.Lo <= h.Hi && h.Hi <= 1<<60) {
		return api.ErrRange
	}
	if len(list) > 2097152 {
		return api.ErrMany
	}
	for i, e := range list {
		if len(e.Code)*8 != h.Width {
			return api.ErrCode
		}
		if e.Value < 0 || e.Value > 1<<h.Bits-1 {
			return api.ErrRange
		}
		if e.ID < 0 || e.ID > 1<<48 {
			return api.ErrID
		}
		if !(e.Seq > h.Lo && e.Seq <= h.Hi) {
			return api.ErrSeq
		}
		if i > 0 && order(list[i-1], e) != -1 {
			return api.ErrOrder
		}
	}
	return api.OK
}

// entryText is an entry as bytes.
func entryText(e api.Entry) string {
	last := "\x00"
	if e.Dead {
		last = "\x01"
	}
	return four(e.Value) + e.Code + seven(e.ID, e.Seq) + last
}

// filled are how many of these texts, one behind the other, go into each frame.
func filled(texts []string) []int {
	var counts []int
	room := 0
	for _, s := range texts {
		if len(s) > room {
			counts = append(counts, 0)
			room = 4096
		}
		room -= len(s)
		counts[len(counts)-1]++
	}
	return counts
}

// cutInto is a list in pieces of so many.
func cutInto[T any](list []T, counts []int) [][]T {
	var pieces [][]T
	for _, n := range counts {
		pieces = append(pieces, list[:n])
		list = list[n:]
	}
	return pieces
}

// frame is one of a file.
type frame struct {
	kind    byte
	payload string
}

func text(frames []frame) string {
	var b strings.Builder
	for _, f := range frames {
		b.WriteString(framed(f.kind, f.payload))
	}
	return b.String()
}

// textsOf are entries as bytes, one by one.
func textsOf(list []api.Entry) []string {
	var texts []string
	for _, e := range list {
		texts = append(texts, entryText(e))
	}
	return texts
}

// blocksOf are the entries of each block, by 6.2.
func blocksOf(list []api.Entry) [][]api.Entry { return cutInto(list, filled(textsOf(list))) }

// lay is 6.2 of any head and list, whether they go or not, the blocks being these pieces of the list, and the index being filled as fill says.
func lay(h api.Head, blocks [][]api.Entry, fill func([]string) []int) []frame {
	frames := []frame{{4, seven(h.Width, h.Table, h.Bits, h.Lo, h.Hi, len(slices.Concat(blocks...)))}}
	var lines []string
	sum := uint32(0)
	at := len(text(frames))
	for _, block := range blocks {
		payload := strings.Join(textsOf(block), "")
		first := block[0]
		lines = append(lines, four(first.Value)+first.Code+seven(first.ID, len(block), at))
		frames = append(frames, frame{5, payload})
		sum = crc32.Update(sum, castagnoli, []byte(payload))
		at += 14 + len(payload)
	}
	for _, piece := range cutInto(lines, fill(lines)) {
		frames = append(frames, frame{6, strings.Join(piece, "")})
	}
	return append(frames, frame{7, seven(len(blocks), at) + four(int(sum))})
}

// framesOf is 6.2, of what goes.
func framesOf(h api.Head, list []api.Entry) []frame { return lay(h, blocksOf(list), filled) }

// taken reads numbers and texts off a payload, and remembers if one was not there.
type taken struct {
	rest string
	bad  bool
}

func (t *taken) number() int {
	v, end, e := seal.Var(t.rest, 0)
	if e != api.OK || v > 1<<62 {
		t.bad = true
		return 0
	}
	t.rest = t.rest[end:]
	return int(v)
}

func (t *taken) bytes(n int) string {
	if n > len(t.rest) {
		t.bad = true
		return strings.Repeat("\x00", n)
	}
	s := t.rest[:n]
	t.rest = t.rest[n:]
	return s
}

// entriesIn are those of a block's payload, if nothing else stands in it.
func entriesIn(payload string, w int) ([]api.Entry, bool) {
	var list []api.Entry
	t := &taken{rest: payload}
	for t.rest != "" && !t.bad {
		value := binary.BigEndian.Uint32([]byte(t.bytes(4)))
		e := api.Entry{Value: int(value), Code: t.bytes(w / 8), ID: t.number(), Seq: t.number()}
		last := t.bytes(1)
		e.Dead = last == "\x01"
		t.bad = t.bad || last > "\x01"
		list = append(list, e)
	}
	return list, !t.bad && len(list) > 0
}

// readModel is 6.3, frame by frame: which head and list a text was built of, if it was.
func readModel(b string) (api.Head, []api.Entry, bool) {
	frames, end := seal.Frames(b)
	if end != len(b) || len(frames) < 2 || frames[0].Kind != 4 {
		return api.Head{}, nil, false
	}
	t := &taken{rest: frames[0].Payload}
	h := api.Head{Width: t.number(), Table: t.number(), Bits: t.number(), Lo: t.number(), Hi: t.number(), Count: t.number()}
	if t.bad || t.rest != "" || refusal(h, nil) != api.OK {
		return api.Head{}, nil, false
	}
	var list []api.Entry
	var counts []int
	var kinds []int
	for _, f := range frames[1:] {
		kinds = append(kinds, f.Kind)
		if f.Kind != 5 {
			continue
		}
		block, ok := entriesIn(f.Payload, h.Width)
		if !ok {
			return api.Head{}, nil, false
		}
		list = append(list, block...)
		counts = append(counts, len(block))
	}
	if !slices.IsSorted(kinds) || h.Count != len(list) || refusal(h, list) != api.OK || !slices.Equal(counts, filled(textsOf(list))) {
		return api.Head{}, nil, false
	}
	want := framesOf(h, list)
	same := slices.EqualFunc(want, frames, func(f frame, g api.Framed) bool { return int(f.kind) == g.Kind && f.payload == g.Payload })
	return h, list, same
}

// findModel and fromModel are 6.4.
func findModel(list []api.Entry, value int) []api.Entry {
	var found []api.Entry
	for _, e := range list {
		if e.Value == value {
			found = append(found, e)
		}
	}
	return found
}

func fromModel(list []api.Entry, e api.Entry, most int) []api.Entry {
	var found []api.Entry
	for _, x := range list {
		if order(x, e) >= 0 && len(found) < most {
			found = append(found, x)
		}
	}
	return found
}

// firstModel is 6.5's first block.
func firstModel(blocks [][]api.Entry, place api.Entry) int {
	first := 0
	for i, block := range blocks {
		if order(block[0], place) <= 0 {
			first = i
		}
	}
	return first
}

// findReads and fromReads are how many blocks 6.5 says are read.
func findReads(blocks [][]api.Entry, value int) int {
	reads := 0
	for i := firstModel(blocks, api.Entry{Value: value, ID: -1}); i < len(blocks); i++ {
		reads++
		if slices.ContainsFunc(blocks[i], func(e api.Entry) bool { return e.Value > value }) {
			break
		}
	}
	return reads
}

func fromReads(blocks [][]api.Entry, e api.Entry, most int) int {
	if most < 1 {
		return 0
	}
	reads, found := 0, 0
	for i := firstModel(blocks, e); i < len(blocks) && found < most; i++ {
		reads++
		found += len(fromModel(blocks[i], e, len(blocks[i])))
	}
	return reads
}

// maker makes up heads and entries.
type maker struct{ *sample.Source }

func from(seed int) maker { return maker{sample.From(seed)} }

// number is from low to high, often at one of them.
func (g maker) number(low, high int) int {
	switch g.Below(8) {
	case 0:
		return low
	case 1:
		return high
	}
	return low + g.Below(min(high-low, 1<<g.Below(61))+1)
}

// head is any that goes, and has room for a number of an update.
func (g maker) head() api.Head {
	lo := g.number(0, 1<<60-1)
	return api.Head{Width: 64 * (1 + g.Below(16)), Table: g.number(0, 127), Bits: g.number(1, 32), Lo: lo, Hi: g.number(lo+1, 1<<60), Count: g.number(0, 100)}
}

// code is one of w bits, with few to choose among, so that some are alike, or alike in all but the last byte.
func (g maker) code(w int) string {
	if g.Below(2) == 0 {
		return strings.Repeat(g.Text(1), w/8-1) + g.Text(1)
	}
	return strings.Repeat(string([]byte{byte(g.Below(3) * 127)}), w/8-1) + string([]byte{byte(g.Below(3) * 127)})
}

// list is one of at most n entries that goes with a head, of at most so many values.
func (g maker) list(h api.Head, n, values int) []api.Entry {
	some := make([]int, values)
	for i := range some {
		some[i] = g.number(0, 1<<h.Bits-1)
	}
	var list []api.Entry
	for range n {
		list = append(list, api.Entry{Value: some[g.Below(values)], Code: g.code(h.Width), ID: g.number(0, 1<<48), Seq: g.number(h.Lo+1, h.Hi), Dead: g.Below(3) == 0})
	}
	slices.SortFunc(list, order)
	return slices.CompactFunc(list, func(a, b api.Entry) bool { return order(a, b) == 0 })
}
