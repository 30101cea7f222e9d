package program

import "shards/api"

// pair is two terms, and the sums that have both: bit i stands for sum i.
type pair struct {
	a, b   int
	common uint64
}

// Pairs makes a program with at most so many registers besides. Each of them is the sum of two terms that several sums have in common, given ones or registers besides that were made ahead of it.
func Pairs(given int, sums []uint64, besides int) Program {
	p := Program{Given: given, Out: len(sums)}
	// Beyond the bounds a word would have too few bits, and nothing could run or write the program.
	if !p.bounded() {
		return p
	}
	// With a word for each term, not for each sum, what two terms have in common is one operation.
	terms := turned(sums, given)
	for p.Besides < besides && p.Besides < api.MaxScratch {
		most := commonest(terms)
		if most.common == 0 {
			break
		}
		p.join(most)
		terms[most.a] &^= most.common
		terms[most.b] &^= most.common
		terms = append(terms, most.common)
	}
	for i, sum := range turned(terms, len(sums)) {
		p.sum(given+i, sum)
	}
	return p
}

// commonest gives the pair that the most sums have, the first of such. Of none, if no pair is in two sums: it would spare nothing.
func commonest(terms []uint64) pair {
	best := pair{}
	most := 1
	for b := range terms {
		for a := range b {
			common := terms[a] & terms[b]
			count := ones(common)
			if count > most {
				best = pair{a: a, b: b, common: common}
				most = count
			}
		}
	}
	return best
}

// join makes one more register besides, the sum of a pair.
func (p *Program) join(two pair) {
	to := p.Given + p.Out + p.Besides
	p.Besides++
	p.sum(to, 1<<uint(two.a)|1<<uint(two.b))
}

// turned turns words over: bit i of word j, for the first so many bits, becomes bit j of word i.
func turned(words []uint64, count int) []uint64 {
	over := []uint64{}
	for i := range count {
		word := uint64(0)
		for j, from := range words {
			word |= (from >> uint(i) & 1) << uint(j)
		}
		over = append(over, word)
	}
	return over
}
