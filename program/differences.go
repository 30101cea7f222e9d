package program

import "shards/api"

// nothing is the number of no register, and of no sum.
const nothing = -1

// way is how a sum can be made: as a copy of the register from, which is made already, or from nothing; and the terms that are left to be added then.
type way struct {
	made bool
	from int
	left uint64
}

// Differences makes a program without registers besides, in which a sum may begin as a copy of another one.
func Differences(given int, sums []uint64) Program {
	p := Program{Given: given, Out: len(sums)}
	ways := []way{}
	for _, sum := range sums {
		ways = append(ways, way{from: nothing, left: sum})
	}
	// The cheapest goes first, each time: so the ways are the least tree that reaches all sums from nothing, and never dearer than the plain one, which is such a tree too.
	for range sums {
		next := cheapest(ways)
		if next == nothing {
			break
		}
		ways[next].made = true
		p.follow(given+next, ways[next])
		for i, sum := range sums {
			w := way{from: given + next, left: sum ^ sums[next]}
			if !ways[i].made && w.xors() < ways[i].xors() {
				ways[i] = w
			}
		}
	}
	return p
}

// cheapest gives the first of the sums not made yet that need the fewest exclusive ors.
func cheapest(ways []way) int {
	best := nothing
	for i, w := range ways {
		if w.made {
			continue
		}
		if best == nothing || w.xors() < ways[best].xors() {
			best = i
		}
	}
	return best
}

// xors tells how many exclusive ors a way needs: from nothing the first term is a copy.
func (w way) xors() int {
	count := ones(w.left)
	if w.from == nothing && count > 0 {
		count--
	}
	return count
}

// follow makes a register in the way told.
func (p *Program) follow(to int, w way) {
	if w.from == nothing {
		p.sum(to, w.left)
		return
	}
	p.lay(api.Copy, to, w.from)
	p.add(api.Xor, to, w.left)
}
