package manifest_test

import (
	"encoding/binary"
	"hash/crc32"
	"math/big"
	"regexp"
	"slices"

	"kindred/api"
	"kindred/disk"
	"kindred/internal/sample"
	"kindred/seal"
)

// checkModel is 8.1, in the order of its words and without a difference that could wrap.
func checkModel(m api.Manifest) api.Errno {
	var widths []int
	for i := 1; i <= 16; i++ {
		widths = append(widths, 64*i)
	}
	if !slices.Contains(widths, m.Opts.Width) {
		return api.ErrWidth
	}
	least, most := 0, 0
	switch m.Opts.Mode {
	case 1:
		least, most = m.Opts.Width/32, m.Opts.Width/8
	case 2:
	default:
		return api.ErrMode
	}
	if m.Opts.Chunks < least || m.Opts.Chunks > most {
		return api.ErrChunks
	}
	if m.Seq < 0 || m.Seq > 1<<60 || m.Next < 2 || m.Next > 1<<40 || m.Journal < 1 || m.Journal >= m.Next || len(m.Runs) > 24 {
		return api.ErrCorrupt
	}
	for i, r := range m.Runs {
		if !runGoes(m, i, r) {
			return api.ErrCorrupt
		}
	}
	return api.OK
}

// runGoes is what 8.1 asks of the i-th run.
func runGoes(m api.Manifest, i int, r api.RunInfo) bool {
	for k, other := range m.Runs {
		if k != i && other.Number == r.Number {
			return false
		}
	}
	if i > 0 && r.Lo < m.Runs[i-1].Hi {
		return false
	}
	return r.Number >= 1 && r.Number < m.Next && r.Number != m.Journal && r.Count >= 1 && r.Count <= 1<<21 && r.Lo >= 0 && r.Hi > r.Lo && r.Hi <= m.Seq
}

// framed is the frame of a payload (3.5), by the library's sums.
func framed(kind byte, payload string) string {
	table := crc32.MakeTable(crc32.Castagnoli)
	head := binary.BigEndian.AppendUint32([]byte{0xa7, kind}, uint32(len(payload)))
	sums := binary.LittleEndian.AppendUint32(nil, crc32.Checksum(head, table))
	sums = binary.LittleEndian.AppendUint32(sums, crc32.Checksum(append(slices.Clone(head), payload...), table))
	return string(head) + string(sums[:4]) + payload + string(sums[4:])
}

// packed are numbers as a payload has them.
func packed(list ...uint64) string {
	var b []byte
	for _, n := range list {
		b = binary.AppendUvarint(b, n)
	}
	return string(b)
}

// numbersOf are all numbers of a manifest, in 8.2's order.
func numbersOf(m api.Manifest) []uint64 {
	list := []int{m.Opts.Width, m.Opts.Chunks, m.Opts.Mode, m.Seq, m.Next, m.Journal, len(m.Runs)}
	for _, r := range m.Runs {
		list = append(list, r.Number, r.Lo, r.Hi, r.Count)
	}
	var out []uint64
	for _, n := range list {
		out = append(out, uint64(n))
	}
	return out
}

// bytesFor is 8.2 of a manifest that goes.
func bytesFor(m api.Manifest) string { return framed(3, packed(numbersOf(m)...)) }

// decodeModel is 8.3: all numbers first, as a flat list.
func decodeModel(b string) (api.Manifest, api.Errno) {
	kind, payload, end, e := seal.Parse(b, 0)
	if e != api.OK {
		return api.Manifest{}, e
	}
	if end < len(b) {
		return api.Manifest{}, api.ErrLong
	}
	if kind != 3 {
		return api.Manifest{}, api.ErrKind
	}
	n, e := flat(payload)
	if e != api.OK {
		return api.Manifest{}, e
	}
	m := api.Manifest{Opts: api.Opts{Width: n[0], Chunks: n[1], Mode: n[2]}, Seq: n[3], Next: n[4], Journal: n[5]}
	for i := 7; i < len(n); i += 4 {
		m.Runs = append(m.Runs, api.RunInfo{Number: n[i], Lo: n[i+1], Hi: n[i+2], Count: n[i+3]})
	}
	if e := checkModel(m); e != api.OK {
		return api.Manifest{}, e
	}
	return m, api.OK
}

// flat are the numbers of a payload: seven, and four for each run.
func flat(payload string) ([]int, api.Errno) {
	var list []int
	at := 0
	for want := 7; len(list) < want; {
		v, behind, e := seal.Var(payload, at)
		if e != api.OK {
			return nil, e
		}
		if v > 1<<60 {
			return nil, api.ErrCorrupt
		}
		if len(list) == 6 {
			if v > 24 {
				return nil, api.ErrCorrupt
			}
			want += 4 * int(v)
		}
		list = append(list, int(v))
		at = behind
	}
	if at < len(payload) {
		return nil, api.ErrLong
	}
	return list, api.OK
}

// storeModel is 8.5, write by write.
func storeModel(d *disk.Disk, m api.Manifest) api.Errno {
	if d.Down() {
		return api.ErrDown
	}
	if e := checkModel(m); e != api.OK {
		return e
	}
	if slices.Contains(d.Names(), "manifest.new") {
		if e := d.Delete("manifest.new"); e != api.OK {
			return e
		}
	}
	if e := d.Create("manifest.new"); e != api.OK {
		return e
	}
	if e := d.Append("manifest.new", bytesFor(m)); e != api.OK {
		if e != api.ErrDown {
			d.Delete("manifest.new")
		}
		return e
	}
	if e := d.Sync("manifest.new"); e != api.OK {
		return e
	}
	return d.Rename("manifest.new", "manifest")
}

var (
	journalForm = regexp.MustCompile(`\Aj([1-9][0-9]*)\z`)
	runForm     = regexp.MustCompile(`\Ar([1-9][0-9]*)\.(0|[1-9][0-9]*)\z`)
)

// kindModel is 8.6, by forms of names and numbers of any size.
func kindModel(name string) [3]int {
	switch name {
	case "manifest":
		return [3]int{1, 0, 0}
	case "manifest.new":
		return [3]int{2, 0, 0}
	}
	if parts := journalForm.FindStringSubmatch(name); parts != nil && upTo(parts[1], 1<<40) {
		return [3]int{3, int(number(parts[1]).Int64()), 0}
	}
	if parts := runForm.FindStringSubmatch(name); parts != nil && upTo(parts[1], 1<<40) && upTo(parts[2], 127) {
		return [3]int{4, int(number(parts[1]).Int64()), int(number(parts[2]).Int64())}
	}
	return [3]int{}
}

func number(digits string) *big.Int {
	n, _ := new(big.Int).SetString(digits, 10)
	return n
}

// upTo: digits without noughts ahead say a number of at most most.
func upTo(digits string, most int64) bool {
	return len(digits) < 100 && number(digits).Cmp(big.NewInt(most)) <= 0
}

// maker makes manifests up.
type maker struct{ *sample.Source }

// good is a manifest that goes.
func (k maker) good() api.Manifest {
	m := api.Manifest{Opts: k.opts(), Seq: k.upTo(1 << 60), Next: 100 + k.upTo(1<<40-100)}
	used := map[int]int{}
	m.Journal = k.unused(used, m.Next)
	at := 0
	for range k.Below(25) {
		lo := at + k.upTo((m.Seq-at)/4)
		if lo >= m.Seq {
			break
		}
		at = lo + 1 + k.upTo((m.Seq-lo-1)/4)
		m.Runs = append(m.Runs, api.RunInfo{Number: k.unused(used, m.Next), Lo: lo, Hi: at, Count: 1 + k.upTo(1<<21-1)})
	}
	return m
}

// opts are some that go.
func (k maker) opts() api.Opts {
	w := 64 * (1 + k.Below(16))
	if k.Below(3) == 0 {
		return api.Opts{Width: w, Mode: api.Treed}
	}
	return api.Opts{Width: w, Chunks: w/32 + k.Below(w/8-w/32+1), Mode: api.Chunked}
}

// upTo is a number from 0 to most: its edges, small ones and great ones.
func (k maker) upTo(most int) int {
	switch k.Below(5) {
	case 0:
		return k.Below(2) * most
	case 1:
		return min(k.Below(4), most)
	case 2:
		return max(most-k.Below(4), 0)
	case 3:
		return min(1<<k.Below(61), most)
	}
	return k.Below(most + 1)
}

// unused is a file's number below next that is not taken yet.
func (k maker) unused(used map[int]int, next int) int {
	for {
		n := 1 + k.upTo(next-2)
		if used[n] == 0 {
			used[n] = 1
			return n
		}
	}
}

// places are where the numbers of a manifest stand.
func places(m *api.Manifest) []*int {
	list := []*int{&m.Opts.Width, &m.Opts.Chunks, &m.Opts.Mode, &m.Seq, &m.Next, &m.Journal}
	for i := range m.Runs {
		list = append(list, &m.Runs[i].Number, &m.Runs[i].Lo, &m.Runs[i].Hi, &m.Runs[i].Count)
	}
	return list
}

// near is a manifest with a number or two changed: by a little, into another of its numbers, or into an edge.
func (k maker) near() api.Manifest {
	m := k.good()
	all := places(&m)
	for range 1 + k.Below(2) {
		p := all[k.Below(len(all))]
		switch k.Below(4) {
		case 0:
			*p += k.Below(5) - 2
		case 1:
			*p = *all[k.Below(len(all))]
		case 2:
			*p = *all[k.Below(len(all))] + k.Below(3) - 1
		default:
			*p = edges[k.Below(len(edges))]
		}
	}
	if len(m.Runs) > 1 && k.Below(4) == 0 {
		a, b := k.Below(len(m.Runs)), k.Below(len(m.Runs))
		m.Runs[a], m.Runs[b] = m.Runs[b], m.Runs[a]
	}
	return m
}
