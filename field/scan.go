package field

import "slices"

// rest is what a scan has left.
type rest []byte

// cut parts the first n bytes from those behind them. The first ones have no room behind their end: whoever lets them grow does not write into what is left.
func (r rest) cut(n int) (head, tail rest) {
	return r[:n:n], r[n:]
}

// Scan goes over bytes and takes fields off; Read makes one.
type Scan struct {
	rest
	place int
	bad   bool
}

// Read makes a scan at the beginning of a copy of b.
func Read(b []byte) *Scan {
	return &Scan{rest: slices.Clone(b)}
}

// take tells the next n bytes and goes behind them. It tells nothing and turns bad if it may not, or if fewer are left.
func (s *Scan) take(may bool, n int, tell func(b []byte)) {
	if s.Bad() {
		return
	}
	if !may || n > len(s.rest) {
		s.bad = true
		return
	}
	head, tail := s.cut(n)
	s.rest = tail
	s.place += n
	tell(head)
}

// Num takes the next field off: its number.
func (s *Scan) Num(size int) uint64 {
	var x uint64
	s.take(isSize(size), size, func(b []byte) {
		for i := range size {
			x = x<<8 | uint64(b[i])
		}
	})
	return x
}

// Int takes the next field off: its number with a sign.
func (s *Scan) Int(size int) int64 {
	var n int64
	s.take(isSize(size), size, func(b []byte) {
		// The highest byte has the sign; each further one shifts it up unchanged.
		n = int64(int8(b[0]))
		for i := range size - 1 {
			n = n<<8 | int64(b[i+1])
		}
	})
	return n
}

// Bytes takes the next n bytes off.
func (s *Scan) Bytes(n int) []byte {
	var out []byte
	s.take(n >= 0, n, func(b []byte) {
		out = slices.Clone(b)
	})
	return out
}

// Left tells how many bytes are left.
func (s *Scan) Left() int {
	if s == nil {
		return 0
	}
	return len(s.rest)
}

// Place tells how many bytes were taken off.
func (s *Scan) Place() int {
	if s == nil {
		return 0
	}
	return s.place
}

// Bad tells whether something could not be taken off. A scan that is not there is bad.
func (s *Scan) Bad() bool {
	return s == nil || s.bad
}
