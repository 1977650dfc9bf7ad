package shape

import (
	"math/bits"

	"winnower/api"
)

// byteCount is how many bytes there are.
const byteCount = 256

// all tells the set of the bytes of which tell says so.
func all(tell func(b byte) bool) api.Set {
	var s api.Set
	for i := range byteCount {
		if tell(byte(i)) {
			add(&s, byte(i))
		}
	}
	return s
}

// span tells the set of the bytes from first to last.
func span(first, last byte) api.Set {
	var s api.Set
	for i := int(first); i <= int(last); i++ {
		add(&s, byte(i))
	}
	return s
}

func add(s *api.Set, b byte) {
	s[b/64] |= 1 << (b % 64)
}

func has(s api.Set, b byte) bool {
	return s[b/64]>>(b%64)&1 != 0
}

// both tells the bytes of two sets.
func both(s, t api.Set) api.Set {
	for i := range s {
		s[i] |= t[i]
	}
	return s
}

// others tells the bytes that are not in s.
func others(s api.Set) api.Set {
	for i := range s {
		s[i] = ^s[i]
	}
	return s
}

func size(s api.Set) int {
	n := 0
	for _, word := range s {
		n += bits.OnesCount64(word)
	}
	return n
}

// runs hands each run of bytes of s to tell, from the lowest one on.
func runs(s api.Set, tell func(first, last byte)) {
	for first := 0; first < byteCount; first++ {
		if !has(s, byte(first)) {
			continue
		}
		last := first
		for last+1 < byteCount && has(s, byte(last+1)) {
			last++
		}
		tell(byte(first), byte(last))
		first = last
	}
}
