package code

import "shards/api"

// The codes EvenOdd, RDP and Star lie in a table of N - 1 rows and N columns.

func tableExists(s api.Spec) bool {
	if s.N != 3 && s.N != 5 && s.N != 7 {
		return false
	}
	return s.K <= s.N && s.Good == 0
}

func tableParity(s api.Spec) []uint64 {
	sums := []uint64{}
	for row := range s.N - 1 {
		sum := across(s, row)
		sums = append(sums, sum)
	}
	down := diagonals(s, 1)
	sums = append(sums, down...)
	if s.Kind == api.Star {
		up := diagonals(s, -1)
		sums = append(sums, up...)
	}
	return sums
}

// across: the sum of a row of all columns of data.
func across(s api.Spec, row int) uint64 {
	sum := uint64(0)
	for j := range s.K {
		sum |= 1 << uint(j*(s.N-1)+row)
	}
	return sum
}

// diagonals: a shard of parity along row and column together (slope 1) or along row less column (slope -1).
func diagonals(s api.Spec, slope int) []uint64 {
	// RDP has the first parity in the table, and so needs no diagonal in all rows.
	everywhere := uint64(0)
	if s.Kind != api.RDP {
		everywhere = diagonal(s, slope, s.N-1)
	}
	sums := []uint64{}
	for row := range s.N - 1 {
		sum := diagonal(s, slope, row)
		sums = append(sums, sum^everywhere)
	}
	return sums
}

func diagonal(s api.Spec, slope, d int) uint64 {
	sum := uint64(0)
	for column := range s.N {
		// N is added so that nothing below nought is divided.
		row := (d - slope*column + s.N) % s.N
		sum ^= cell(s, row, column)
	}
	return sum
}

func cell(s api.Spec, row, column int) uint64 {
	if row == s.N-1 {
		return 0
	}
	if column < s.K {
		return 1 << uint(column*(s.N-1)+row)
	}
	if s.Kind == api.RDP && column == s.N-1 {
		return across(s, row)
	}
	return 0
}
