package delta_test

import (
	"math"
	"slices"
	"strconv"
	"strings"

	"kindred/api"
)

// edges are numbers at which a sum or a bound may go wrong.
var edges = []int{math.MinInt, math.MinInt + 1, -1 << 48, -65536, -1024, -64, -1, 0, 1, 63, 64, 65, 128, 1024, 65535, 65536, 1 << 31, 1 << 32, 1<<48 - 1, 1 << 48, 1<<48 + 1, 1<<60 - 1, 1 << 60, 1<<60 + 1, math.MaxInt - 1, math.MaxInt}

// model is chapter 9 once more, as a list of all that was said since the beginning or the last Clear; every answer is looked for in it anew.
type model struct {
	w, m int
	last int
	said []api.Entry
	cut  map[string][]int // the values of codes, so that no code is cut twice
}

// goes: there is a delta of w and m (9.1).
func goes(w, m int) bool {
	width := slices.Contains([]int{64, 128, 192, 256, 320, 384, 448, 512, 576, 640, 704, 768, 832, 896, 960, 1024}, w)
	return width && (m == 0 || m >= w/32 && m <= w/8)
}

// tables is how many there are.
func (o *model) tables() int {
	if o.m == 0 {
		return 1
	}
	return o.m
}

// values are those of a code in all tables: its bits as letters, of which the chunks are cut one by one.
func (o *model) values(code string) []int {
	if o.m == 0 {
		return []int{0}
	}
	if o.cut[code] != nil {
		return o.cut[code]
	}
	var letters strings.Builder
	for i := range len(code) {
		eight := strconv.FormatInt(int64(code[i]), 2)
		letters.WriteString(strings.Repeat("0", 8-len(eight)) + eight)
	}
	left := letters.String()
	var values []int
	for i := range o.m {
		n := o.w / o.m
		if i < o.w%o.m {
			n++
		}
		v, _ := strconv.ParseInt(left[:n], 2, 64)
		values = append(values, int(v))
		left = left[n:]
	}
	o.cut[code] = values
	return values
}

// say is 9.2.
func (o *model) say(e api.Entry) api.Errno {
	if len(e.Code)*8 != o.w {
		return api.ErrCode
	}
	if e.ID < 0 || e.ID > 1<<48 {
		return api.ErrID
	}
	if e.Seq <= o.last || e.Seq > 1<<60 {
		return api.ErrSeq
	}
	if _, ok := o.word(e.ID, e.Code); !ok && len(o.words()) == 65536 {
		return api.ErrMany
	}
	o.said = append(o.said, e)
	o.last = e.Seq
	return api.OK
}

// word is 9.3: the last that was said of the pair.
func (o *model) word(id int, code string) (api.Entry, bool) {
	for _, e := range slices.Backward(o.said) {
		if e.ID == id && e.Code == code {
			return e, true
		}
	}
	return api.Entry{}, false
}

// words are the last words of all pairs, the one said last first.
func (o *model) words() []api.Entry {
	type pair struct {
		id   int
		code string
	}
	var list []api.Entry
	seen := map[pair]int{}
	for _, e := range slices.Backward(o.said) {
		p := pair{e.ID, e.Code}
		if seen[p]++; seen[p] == 1 {
			list = append(list, e)
		}
	}
	return list
}

// entries is 9.4: sorted by one thing at a time, the least of them first, which a sort that leaves equals as they are makes one order.
func (o *model) entries(j int) []api.Entry {
	if j < 0 || j >= o.tables() {
		return nil
	}
	list := o.words()
	for i := range list {
		list[i].Value = o.values(list[i].Code)[j]
	}
	slices.SortStableFunc(list, func(a, b api.Entry) int { return sign(a.ID < b.ID, a.ID > b.ID) })
	slices.SortStableFunc(list, func(a, b api.Entry) int { return bytewise(a.Code, b.Code) })
	slices.SortStableFunc(list, func(a, b api.Entry) int { return sign(a.Value < b.Value, a.Value > b.Value) })
	return list
}

// find is 9.4.
func (o *model) find(j, value int) []api.Entry { return with(o.entries(j), value) }

// with are the words that have a value.
func with(words []api.Entry, value int) []api.Entry {
	var list []api.Entry
	for _, e := range words {
		if e.Value == value {
			list = append(list, e)
		}
	}
	return list
}

// codes is 9.4.
func (o *model) codes() []api.Cluster {
	ids := map[string][]int{}
	for _, e := range o.words() {
		if !e.Dead {
			ids[e.Code] = append(ids[e.Code], e.ID)
		}
	}
	var list []api.Cluster
	for code, them := range ids {
		slices.Sort(them)
		list = append(list, api.Cluster{Code: code, IDs: them})
	}
	slices.SortFunc(list, func(a, b api.Cluster) int { return bytewise(a.Code, b.Code) })
	return list
}

// clear is 9.5.
func (o *model) clear() { o.said = nil }

func sign(less, more bool) int {
	if less {
		return -1
	}
	if more {
		return 1
	}
	return 0
}

// bytewise orders two texts of one length by the first byte that is unlike.
func bytewise(a, b string) int {
	for i := range len(a) {
		if a[i] != b[i] {
			return sign(a[i] < b[i], a[i] > b[i])
		}
	}
	return 0
}
