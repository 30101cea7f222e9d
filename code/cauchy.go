package code

import (
	"shards/api"
	"shards/field"
)

func cauchyExists(s api.Spec) bool {
	if s.N < 1 || s.N > api.MaxField {
		return false
	}
	if s.Good != 0 && s.Good != 1 {
		return false
	}
	return s.K+s.M <= 1<<uint(s.N)
}

func cauchyParity(s api.Spec) []uint64 {
	f := field.Of(s.N)
	sums := []uint64{}
	for i := range s.M {
		elements := cauchyElements(f, s, i)
		if s.Good == 1 {
			elements = goodElements(f, s, i)
		}
		for r := range s.N {
			sum := bitRow(f, s.N, elements, r)
			sums = append(sums, sum)
		}
	}
	return sums
}

// cauchyElements: what parity i multiplies each shard of data by.
func cauchyElements(f field.Field, s api.Spec, i int) []int {
	elements := []int{}
	for j := range s.K {
		e := f.Over(1, i^(s.M+j))
		elements = append(elements, e)
	}
	return elements
}

// goodElements: the same in the matrix with fewer ones.
func goodElements(f field.Field, s api.Spec, i int) []int {
	row := []int{}
	for j, e := range cauchyElements(f, s, i) {
		// e over e(0, j), which is one over 0 ^ (M + j).
		quotient := f.Times(e, s.M+j)
		row = append(row, quotient)
	}
	if i == 0 {
		return row
	}
	return lightest(f, row)
}

// lightest: the row over 1, or over the one of its elements that leaves the fewest ones.
func lightest(f field.Field, row []int) []int {
	best := divided(f, row, 1)
	fewest := onesOf(f, best)
	for _, divisor := range row {
		quotients := divided(f, row, divisor)
		ones := onesOf(f, quotients)
		// Of equals the earlier stays: 1 goes first, then the element that stands first.
		if ones < fewest {
			best = quotients
			fewest = ones
		}
	}
	return best
}

func divided(f field.Field, row []int, divisor int) []int {
	quotients := []int{}
	for _, e := range row {
		quotient := f.Over(e, divisor)
		quotients = append(quotients, quotient)
	}
	return quotients
}

func onesOf(f field.Field, row []int) int {
	ones := 0
	for _, e := range row {
		ones += f.Ones(e)
	}
	return ones
}

// bitRow: row r of the bit matrices of the elements, one beside the other.
func bitRow(f field.Field, n int, elements []int, r int) uint64 {
	sum := uint64(0)
	for j, e := range elements {
		for c := range n {
			column := f.Times(e, 1<<uint(c))
			if column>>uint(r)&1 == 1 {
				sum |= 1 << uint(j*n+c)
			}
		}
	}
	return sum
}
