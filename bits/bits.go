// Package bits: codes as bits: see doc/01-bits.md.
package bits

import (
	"iter"

	"kindred/api"
)

// halfOnes: how many bits are one, for each half of a byte.
var halfOnes = [16]int{0, 1, 1, 2, 1, 2, 2, 3, 1, 2, 2, 3, 2, 3, 3, 4}

// Check looks whether a text is a code of w bits.
func Check(w int, code string) api.Errno {
	if !isWidth(w) {
		return api.ErrWidth
	}
	if len(code) != w/8 {
		return api.ErrCode
	}
	return api.OK
}

// Weight is how many bits of a text are one.
func Weight(s string) int {
	n := 0
	for i := range len(s) {
		n += ones(s[i])
	}
	return n
}

// Distance is how many bits of two texts of one length are unlike.
func Distance(a, b string) (int, api.Errno) {
	if len(a) != len(b) {
		return 0, api.ErrCode
	}
	// Searches ask this of many codes: counting as it goes spares them the text that Xor would make.
	n := 0
	for i := range len(a) {
		n += ones(a[i] ^ b[i])
	}
	return n, api.OK
}

// Xor has a one where two texts of one length are unlike.
func Xor(a, b string) (string, api.Errno) {
	if len(a) != len(b) {
		return "", api.ErrCode
	}
	out := make([]byte, len(a))
	for i := range len(a) {
		out[i] = a[i] ^ b[i]
	}
	return string(out), api.OK
}

// Bit is bit i.
func Bit(code string, i int) (int, api.Errno) {
	if !hasBit(code, i) {
		return 0, api.ErrRange
	}
	at, mask := place(i)
	if code[at]&mask == 0 {
		return 0, api.OK
	}
	return 1, api.OK
}

// Flip turns bit i.
func Flip(code string, i int) (string, api.Errno) {
	if !hasBit(code, i) {
		return "", api.ErrRange
	}
	at, mask := place(i)
	out := []byte(code)
	out[at] ^= mask
	return string(out), api.OK
}

// Slice are n bits from one on, as a number, the first bit the highest.
func Slice(code string, from, n int) (uint64, api.Errno) {
	// The sum from + n could wrap; the difference of two small numbers can't.
	if n < 0 || n > 64 || from < 0 || from > 8*len(code)-n {
		return 0, api.ErrRange
	}
	return number(code, from, n), api.OK
}

// Chunks parts w bits into m chunks.
func Chunks(w, m int) ([]api.Chunk, api.Errno) {
	if e := checkChunks(w, m); e != api.OK {
		return nil, e
	}
	out := make([]api.Chunk, m)
	for j, c := range chunks(w, m) {
		out[j] = c
	}
	return out, api.OK
}

// Split are the values of a code's chunks.
func Split(w, m int, code string) ([]int, api.Errno) {
	if e := checkChunks(w, m); e != api.OK {
		return nil, e
	}
	if e := Check(w, code); e != api.OK {
		return nil, e
	}
	out := make([]int, m)
	for j, c := range chunks(w, m) {
		out[j] = int(number(code, c.From, c.Bits))
	}
	return out, api.OK
}

// Join makes a code of its chunks' values.
func Join(w, m int, values []int) (string, api.Errno) {
	if e := checkChunks(w, m); e != api.OK {
		return "", e
	}
	if len(values) != m {
		return "", api.ErrRange
	}
	out := make([]byte, w/8)
	for j, c := range chunks(w, m) {
		if values[j] < 0 || values[j]>>c.Bits != 0 {
			return "", api.ErrRange
		}
		write(out, c, values[j])
	}
	return string(out), api.OK
}

// isWidth tells whether codes can have w bits.
func isWidth(w int) bool {
	return w >= api.MinWidth && w <= api.MaxWidth && w%api.MinWidth == 0
}

// checkChunks looks whether w bits can be parted into m chunks.
func checkChunks(w, m int) api.Errno {
	if !isWidth(w) {
		return api.ErrWidth
	}
	// Every width is a multiple of 32: the least m needs no rounding up.
	if m < w/32 || m > w/8 {
		return api.ErrChunks
	}
	return api.OK
}

// ones is how many bits of a byte are one.
func ones(b byte) int {
	return halfOnes[b>>4] + halfOnes[b&15]
}

// hasBit tells whether a text has a bit i.
func hasBit(code string, i int) bool {
	return i >= 0 && i/8 < len(code)
}

// place is where bit i of a text stands: its byte, and the mask that leaves it alone there.
func place(i int) (int, byte) {
	return i / 8, byte(0x80) >> (i % 8)
}

// places goes through n bits from one on: where each stands.
func places(from, n int) iter.Seq2[int, byte] {
	return func(yield func(int, byte) bool) {
		for i := range n {
			if !yield(place(from + i)) {
				return
			}
		}
	}
}

// chunks goes through the m chunks of w bits, which checkChunks has let pass.
func chunks(w, m int) iter.Seq2[int, api.Chunk] {
	return func(yield func(int, api.Chunk) bool) {
		from := 0
		for j := range m {
			c := api.Chunk{From: from, Bits: w / m}
			if j < w%m {
				c.Bits++
			}
			if !yield(j, c) {
				return
			}
			from += c.Bits
		}
	}
}

// number is the number that n bits of a text make, which has them all.
func number(code string, from, n int) uint64 {
	v := uint64(0)
	for at, mask := range places(from, n) {
		v <<= 1
		if code[at]&mask != 0 {
			v |= 1
		}
	}
	return v
}

// write sets, in bytes without ones there, the bits of a chunk to its value's.
func write(out []byte, c api.Chunk, value int) {
	left := c.Bits
	for at, mask := range places(c.From, c.Bits) {
		left--
		if value>>left&1 == 1 {
			out[at] |= mask
		}
	}
}
