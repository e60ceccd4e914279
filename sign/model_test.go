package sign_test

import (
	"math/big"

	"kindred/api"
)

// This is the chapter's words a second time, by other means: great numbers taken modulo 2^64 for the directions, whole numbers and turns for the sums, and a row of noughts and ones for the code.

// constant is a number that the chapter writes in hexadecimals.
func constant(digits string) *big.Int {
	n, ok := new(big.Int).SetString(digits, 16)
	if !ok {
		panic(digits)
	}
	return n
}

var (
	wrap   = constant("10000000000000000")
	stride = constant("9e3779b97f4a7c15")
	first  = constant("bf58476d1ce4e5b9")
	second = constant("94d049bb133111eb")
)

// folded is x, xored with itself shifted to the right.
func folded(x *big.Int, by uint) *big.Int {
	return new(big.Int).Xor(x, new(big.Int).Rsh(x, by))
}

func times(a, b *big.Int) *big.Int {
	p := new(big.Int).Mul(a, b)
	return p.Mod(p, wrap)
}

// turns is how often u(j, k) turns a part by i.
func turns(seed uint64, j, k int) int {
	x := times(stride, big.NewInt(int64(1024*j+k+1)))
	x.Add(x, new(big.Int).SetUint64(seed)).Mod(x, wrap)
	x = times(folded(x, 30), first)
	x = times(folded(x, 27), second)
	x = folded(x, 31)
	return int(x.Bit(63)*2 + x.Bit(62))
}

// turned is a part times i, so many times.
func turned(p api.Part, n int) api.Part {
	for range n {
		p = api.Part{Re: -p.Im, Im: p.Re}
	}
	return p
}

func add(a, b api.Part) api.Part { return api.Part{Re: a.Re + b.Re, Im: a.Im + b.Im} }

// directions are those that a signer of w, dims and seed has: of each, how often each place turns.
func directions(w, dims int, seed uint64) [][]int {
	all := make([][]int, w/2)
	for j := range all {
		all[j] = make([]int, dims)
		for k := range all[j] {
			all[j][k] = turns(seed, j, k)
		}
	}
	return all
}

// sumsModel is 19.2, of a vector.
func sumsModel(all [][]int, v []api.Part) []api.Part {
	sums := make([]api.Part, len(all))
	for j, direction := range all {
		for k, n := range direction {
			sums[j] = add(sums[j], turned(v[k], n))
		}
	}
	return sums
}

// codeModel is 19.3, of a vector's sums.
func codeModel(sums []api.Part) string {
	row := ""
	digit := func(n int) string {
		if n > 0 {
			return "1"
		}
		return "0"
	}
	for _, p := range sums {
		row += digit(p.Re) + digit(p.Im)
	}
	n, _ := new(big.Int).SetString(row, 2)
	return string(n.FillBytes(make([]byte, len(row)/8)))
}

// refusalModel is what 19.2 says of a vector that a signer of so many parts is handed.
func refusalModel(dims int, v []api.Part) api.Errno {
	if len(v) != dims {
		return api.ErrDims
	}
	for _, p := range v {
		if p.Re < -1048576 || p.Re > 1048576 || p.Im < -1048576 || p.Im > 1048576 {
			return api.ErrPart
		}
	}
	return api.OK
}
