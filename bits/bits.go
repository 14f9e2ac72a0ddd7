// Package bits: sets of numbers: see ../../shared/doc/01-bits.md.
package bits

import (
	"math/bits"
	"sort"
)

const (
	maxSet  = 1024
	maxPart = 999                             // the greatest number in a pair
	maxPair = maxPart*(2*maxPart+1) + maxPart // the number of the pair of both the greatest
)

// Set is a set of numbers.
type Set struct{ w [16]uint64 }

// Of tells the set of those of l that are from 0 below maxSet.
func Of(l ...int) Set {
	var s Set
	for _, i := range l {
		if inSet(i) {
			s.w[i/64] |= 1 << (i % 64)
		}
	}
	return s
}

func inSet(i int) bool { return i >= 0 && i < maxSet }

// Has tells whether i is in the set.
func (s Set) Has(i int) bool {
	return inSet(i) && s.w[i/64]>>(i%64)&1 == 1
}

// Len tells how many numbers the set has.
func (s Set) Len() int {
	n := 0
	for _, w := range s.w {
		n += bits.OnesCount64(w)
	}
	return n
}

// List tells the numbers of the set, rising.
func (s Set) List() []int {
	l := make([]int, 0, s.Len())
	for i, w := range s.w {
		for ; w != 0; w &= w - 1 {
			l = append(l, i*64+bits.TrailingZeros64(w))
		}
	}
	return l
}

// Or tells what is in a or in b.
func Or(a, b Set) Set {
	for i, w := range b.w {
		a.w[i] |= w
	}
	return a
}

// And tells what is in a and in b.
func And(a, b Set) Set {
	for i, w := range b.w {
		a.w[i] &= w
	}
	return a
}

// Without tells what is in a and not in b.
func Without(a, b Set) Set {
	for i, w := range b.w {
		a.w[i] &^= w
	}
	return a
}

// Eq tells whether both have the same numbers.
func Eq(a, b Set) bool { return a.w == b.w }

// Pair tells the number of a pair: the pairs of lesser sums stand ahead, and
// of the same sum those with a lesser i.
func Pair(i, j int) int {
	if !inPair(i) || !inPair(j) {
		return -1
	}
	return ahead(i+j) + i
}

func inPair(i int) bool { return i >= 0 && i <= maxPart }

// ahead tells how many pairs have a sum below the given one.
func ahead(sum int) int { return sum * (sum + 1) / 2 }

// Unpair tells the pair whose number k is.
func Unpair(k int) (int, int) {
	if k < 0 || k > maxPair {
		return -1, -1
	}
	sum := sort.Search(2*maxPart, func(sum int) bool { return ahead(sum+1) > k })
	i := k - ahead(sum)
	j := sum - i
	if !inPair(i) || !inPair(j) {
		return -1, -1
	}
	return i, j
}
