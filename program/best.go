package program

// Best makes the program with the fewest exclusive ors of those that Differences and Pairs make.
func Best(given int, sums []uint64, besides int) Program {
	differences := Differences(given, sums)
	pairs := Pairs(given, sums, besides)
	// With as few without registers besides, they are spared.
	if pairs.Xors() < differences.Xors() {
		return pairs
	}
	return differences
}
