// Package lanes is layer 1: see shared/doc/01-lanes.md.
package lanes

// Load: eight bytes as a word, the first one lowest.
func Load(b [8]byte) uint64 {
	var w uint64
	for i, x := range &b {
		w |= uint64(x) << (8 * i)
	}
	return w
}

// Store: a word as eight bytes.
func Store(w uint64) [8]byte {
	var b [8]byte
	p := &b
	for i := range p {
		p[i] = byte(w >> (8 * i))
	}
	return b
}

// Fill: a word of eight of one byte.
func Fill(c byte) uint64 {
	return Load([8]byte{c, c, c, c, c, c, c, c})
}

// Equal: which of the eight are this byte.
func Equal(w uint64, c byte) uint8 {
	return which(w, func(x byte) bool { return x == c })
}

// Below: which are below it.
func Below(w uint64, c byte) uint8 {
	return which(w, func(x byte) bool { return x < c })
}

// Between: which are from one byte to another one.
func Between(w uint64, lo, hi byte) uint8 {
	return which(w, func(x byte) bool { return lo <= x && x <= hi })
}

// Less: which are below a number, each taken as a signed one.
func Less(w uint64, c int8) uint8 {
	return which(w, func(x byte) bool { return int8(x) < c })
}

// High: which have their highest bit set.
func High(w uint64) uint8 {
	return Less(w, 0)
}

// Sum: the eight bytes added up.
func Sum(w uint64) int {
	b := Store(w)
	sum := 0
	for _, x := range &b {
		sum += int(x)
	}
	return sum
}

// which looks at each byte by itself: arithmetic on the whole word would let a carry or a borrow out of one byte speak of the next.
func which(w uint64, holds func(x byte) bool) uint8 {
	b := Store(w)
	var answer uint8
	for i, x := range &b {
		if holds(x) {
			answer |= 1 << i
		}
	}
	return answer
}
