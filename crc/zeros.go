package crc

import "math/bits"

const (
	wordBits = 32
	sizeBits = bits.UintSize - 1 // of an int that isn't below 0
)

// power tells of each bit of a word what so and so many zero bytes make of it. What they make of a word is what they make of its bits, made one.
type power [wordBits]uint32

// behind tells what a word is behind n zero bytes.
func behind(word uint32, n int) uint32 {
	count := bits.Len(uint(n))
	all := powers(count)
	for k := range count {
		if n>>k&1 == 1 {
			word = all[k].of(word)
		}
	}
	return word
}

// powers tells the powers of 1, 2, 4 and more zero bytes: only count of them, as each costs a thousand steps.
func powers(count int) [sizeBits]power {
	all := [sizeBits]power{one()}
	for k := 1; k < count; k++ {
		all[k] = all[k-1].twice()
	}
	return all
}

// one tells the power of one zero byte.
func one() power {
	var p power
	for bit := range wordBits {
		p[bit] = steps(1 << bit)
	}
	return p
}

// twice tells the power of twice as many zero bytes.
func (p *power) twice() power {
	var q power
	for bit := range wordBits {
		q[bit] = p.of(p[bit])
	}
	return q
}

// of tells what the zero bytes make of a word.
func (p *power) of(word uint32) uint32 {
	var made uint32
	for bit := range wordBits {
		if word>>bit&1 == 1 {
			made ^= p[bit]
		}
	}
	return made
}
