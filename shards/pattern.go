package shards

import (
	"shards/api"
	"shards/code"
	"shards/program"
)

// A pattern has bit i set if shard i is lost.
const nothingLost = 0

// The levels of the settings above 0, which is the plain one.
const (
	byDifferences = 1
	byPairs       = 2
	byTheBest     = 3
)

type keptProgram struct {
	pattern int
	program program.Program
}

// patternOf turns a list of what is lost into a pattern.
func (x *Coder) patternOf(lost []int) (int, api.Errno) {
	// A coder that New did not make has no shards that could be lost.
	if x == nil || !code.Exists(x.spec) {
		return nothingLost, api.ErrPattern
	}
	pattern := nothingLost
	for _, i := range lost {
		if i < 0 || i >= x.spec.K+x.spec.M || code.IsLost(pattern, i) {
			return nothingLost, api.ErrPattern
		}
		pattern |= 1 << uint(i)
	}
	if len(lost) > x.spec.M {
		return nothingLost, api.ErrLost
	}
	return pattern, api.OK
}

// want gives the program of a pattern, and keeps it if there is room: none gives way to a later one, for the count is the same.
func (x *Coder) want(pattern int) program.Program {
	for i := 0; i < x.count && i < len(x.kept); i++ {
		if x.kept[i].pattern == pattern {
			return x.kept[i].program
		}
	}
	p := x.programOf(pattern)
	if x.count < x.set.Cache && x.count < len(x.kept) {
		x.kept[x.count] = keptProgram{pattern: pattern, program: p}
		x.count++
	}
	return p
}

// programOf makes the program of a pattern at the level that is set (P12): to what is lost, or, if nothing is, to all parity.
func (x *Coder) programOf(pattern int) program.Program {
	sums := code.Parity(x.spec)
	if pattern != nothingLost {
		sums = code.Lost(x.spec, pattern)
	}
	given := x.spec.K * code.Rows(x.spec)
	switch x.set.Level {
	case byDifferences:
		return program.Differences(given, sums)
	case byPairs:
		return program.Pairs(given, sums, x.set.Scratch)
	case byTheBest:
		return program.Best(given, sums, x.set.Scratch)
	}
	return program.Plain(given, sums)
}
