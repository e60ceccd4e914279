package sample_test

import (
	"testing"

	"kindred/internal/sample"
)

func TestTheSameInEveryRun(t *testing.T) {
	// The first numbers of splitmix64 from 0 on, as its authors tell them.
	s := sample.From(0)
	for i, want := range []uint64{0xe220a8397b1dcdaf, 0x6e789e6aa1b965f4, 0x06c45d188009454f} {
		if got := s.Next(); got != want {
			t.Errorf("number %d is %x, want %x", i, got, want)
		}
	}
}

func TestBounds(t *testing.T) {
	s := sample.From(1)
	seen := map[int]int{}
	for range 1000 {
		seen[s.Below(7)]++
	}
	for n, times := range seen {
		if n < 0 || n > 6 || times < 50 {
			t.Errorf("Below(7): %d came %d times", n, times)
		}
	}
	if len(seen) != 7 || s.Below(0) != 0 || s.Below(-1) != 0 || s.Below(1) != 0 {
		t.Errorf("Below: %v", seen)
	}
	if len(s.Text(0)) != 0 || len(s.Text(-1)) != 0 || len(s.Text(9)) != 9 {
		t.Errorf("Text has another length")
	}
}
