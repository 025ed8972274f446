// Package runes is layer 1: texts as runes. See shared/doc/01-runes.md.
package runes

import (
	"iter"
	"strings"
	"unicode/utf8"

	"foolscap/api"
)

// broken is told in place of a rune; it is none itself.
const broken = -1

// The numbers of Digest.
const (
	digestBegin = 14695981039346656037
	digestTimes = 1099511628211
)

// May tells whether the bytes are a text.
func May(s string) bool {
	for _, r := range along(s) {
		if r == broken {
			return false
		}
	}
	return true
}

// Len tells how many runes a text has; -1 of what is none.
func Len(s string) int {
	if !May(s) {
		return -1
	}
	n := 0
	for range s {
		n++
	}
	return n
}

// Split tells the runes of a text.
func Split(s string) ([]rune, api.Errno) {
	n := Len(s)
	if n < 0 {
		return nil, api.ErrText
	}
	l := make([]rune, 0, n)
	for _, r := range along(s) {
		l = append(l, r)
	}
	return l, api.OK
}

// Join tells the text of runes.
func Join(l []rune) (string, api.Errno) {
	var b strings.Builder
	for _, r := range l {
		if !utf8.ValidRune(r) {
			return "", api.ErrText
		}
		b.WriteRune(r)
	}
	return b.String(), api.OK
}

// Cut tells the text of the n runes of s from the rune from on.
func Cut(s string, from, n int) (string, api.Errno) {
	size := Len(s)
	if size < 0 {
		return "", api.ErrText
	}
	// No sum of the two is made: it might go round.
	if from < 0 || from > size || n < 0 || n > size-from {
		return "", api.ErrRange
	}
	rest := s[byteOf(s, from):]
	// A piece of s would share its memory.
	return strings.Clone(rest[:byteOf(rest, n)]), api.OK
}

// Digest tells a number of any bytes.
func Digest(s string) uint64 {
	var h uint64 = digestBegin
	for i := range len(s) {
		h ^= uint64(s[i])
		h *= digestTimes
	}
	return h
}

// along goes along the runes of s, each with the place of its first byte; where bytes are no rune's it tells broken, and ends.
func along(s string) iter.Seq2[int, rune] {
	return func(yield func(int, rune) bool) {
		for at := 0; at < len(s); {
			r, n := utf8.DecodeRuneInString(s[at:])
			// The library tells a wrong byte as the rune RuneError, but that rune's own bytes are three.
			if r == utf8.RuneError && n == 1 {
				yield(at, broken)
				return
			}
			if !yield(at, r) {
				return
			}
			at += n
		}
	}
}

// byteOf tells at which byte of a text its rune k begins; of as many as there are, where the text ends.
func byteOf(s string, k int) int {
	for at := range along(s) {
		if k == 0 {
			return at
		}
		k--
	}
	return len(s)
}
