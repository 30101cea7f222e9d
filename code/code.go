// Package code: the four codes, and by which sums of rows their parity is made and turned, and what is lost comes back.
package code

import "shards/api"

// Exists tells whether there is such a code (P3).
func Exists(s api.Spec) bool {
	// Each alone first: the sum of two great numbers may turn negative.
	if s.K < 1 || s.K > api.MaxShards || s.M < 1 || s.M > api.MaxShards {
		return false
	}
	if s.K+s.M > api.MaxShards {
		return false
	}
	switch s.Kind {
	case api.Cauchy:
		return cauchyExists(s)
	case api.EvenOdd:
		return tableExists(s) && s.M == 2
	case api.RDP:
		return tableExists(s) && s.M == 2 && s.K < s.N
	case api.Star:
		return tableExists(s) && s.M == 3
	}
	return false
}

// Rows tells how many rows a shard has; 0, if there is no such code.
func Rows(s api.Spec) int {
	if !Exists(s) {
		return 0
	}
	if s.Kind == api.Cauchy {
		return s.N
	}
	return s.N - 1
}

// Parity tells of each row of parity, shard by shard, which rows of data it is the sum of: bit j * R + r stands for row r of data j. Nil, if there is no such code.
func Parity(s api.Spec) []uint64 {
	if !Exists(s) {
		return nil
	}
	if s.Kind == api.Cauchy {
		return cauchyParity(s)
	}
	return tableParity(s)
}
