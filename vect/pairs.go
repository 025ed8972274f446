package vect

// pairs goes along the counts of two vectors, site by site up to the longer one's end, and tells what step makes of them behind each other, from begin on.
func pairs[T any](a, b []int, begin T, step func(so T, x, y int) T) T {
	so := begin
	for i := range max(len(a), len(b)) {
		so = step(so, at(a, i), at(b, i))
	}
	return so
}

// at tells the count at a place of a vector, behind its end too.
func at(v []int, i int) int {
	if i < len(v) {
		return v[i]
	}
	return 0
}

// covers is Covers of vectors that may be.
func covers(a, b []int) bool {
	return pairs(a, b, true, func(so bool, x, y int) bool { return so && x >= y })
}

// picked makes the vector that has of each site the count that pick tells of two.
func picked(a, b []int, pick func(x, y int) int) []int {
	var v []int
	v = pairs(a, b, v, func(so []int, x, y int) []int { return append(so, pick(x, y)) })
	// The lesser of two may be 0 where neither vector has ended, but no vector ends with a 0.
	for len(v) > 0 && v[len(v)-1] == 0 {
		v = v[:len(v)-1]
	}
	return v
}

func greater(x, y int) int { return max(x, y) }

func lesser(x, y int) int { return min(x, y) }
