package code

import "shards/api"

// Lost tells of each row of the shards that are lost (bit i of the pattern: shard i), shard by shard by their numbers, which rows of the first K others it is the sum of: bit i * R + r stands for row r of the i-th of these. Nil, if there is no such code, or there are fewer than K others.
func Lost(s api.Spec, pattern int) []uint64 {
	rows := Rows(s)
	if rows < 1 {
		return nil
	}
	all := everyRow(s)
	known := solver{}
	given := 0
	for i, row := range all {
		if !IsLost(pattern, i/rows) && given < s.K*rows {
			known.add(equation{data: row, given: 1 << uint(given)})
			given++
		}
	}
	if given < s.K*rows {
		return nil
	}
	sums := []uint64{}
	for i, row := range all {
		if IsLost(pattern, i/rows) {
			left := known.reduce(equation{data: row})
			sums = append(sums, left.given)
		}
	}
	return sums
}

// IsLost tells whether a shard is lost in a pattern.
func IsLost(pattern, shard int) bool {
	return shard >= 0 && pattern>>uint(shard)&1 == 1
}

// everyRow: the rows of all shards, data and parity, as sums of rows of data.
func everyRow(s api.Spec) []uint64 {
	rows := Rows(s)
	all := []uint64{}
	for i := range s.K * rows {
		all = append(all, 1<<uint(i))
	}
	parity := Parity(s)
	all = append(all, parity...)
	return all
}

// Turned tells of each row of parity of which rows it is the sum when data shard j is turned: bit i stands for row i of all parity as it was; behind these come the rows of shard j as it was, and behind these as it is. Nil, if there is no such shard.
func Turned(s api.Spec, j int) []uint64 {
	rows := Rows(s)
	if rows < 1 || j < 0 || j >= s.K {
		return nil
	}
	sums := []uint64{}
	for i, row := range Parity(s) {
		part := row >> uint(j*rows) & (1<<uint(rows) - 1)
		old := part << uint(s.M*rows)
		now := part << uint(s.M*rows+rows)
		sums = append(sums, 1<<uint(i)|old|now)
	}
	return sums
}
