// Package sample makes up what tests try: numbers and texts of all kinds, the same ones in every run, so that a fault that was seen is seen again.
package sample

// Source is a row of numbers that hang on where it begins.
type Source struct{ state uint64 }

// From is the row that begins with this seed.
func From(seed int) *Source { return &Source{state: uint64(seed)} }

// Next is the row's next number (splitmix64: rows of near seeds are not alike).
func (s *Source) Next() uint64 {
	s.state += 0x9e3779b97f4a7c15
	x := s.state
	x = (x ^ x>>30) * 0xbf58476d1ce4e5b9
	x = (x ^ x>>27) * 0x94d049bb133111eb
	return x ^ x>>31
}

// Below is a number from 0 to n - 1; 0, if there is none.
func (s *Source) Below(n int) int {
	if n < 1 {
		return 0
	}
	return int(s.Next() % uint64(n))
}

// Text is a text of n bytes.
func (s *Source) Text(n int) string {
	b := make([]byte, max(n, 0))
	for i := range b {
		b[i] = byte(s.Next())
	}
	return string(b)
}
