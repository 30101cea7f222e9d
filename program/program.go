// Package program: lists of operations on registers by which sums are made.
package program

import "shards/api"

// Op is an operation: of the kind api.Zero, api.Copy or api.Xor, on the register To; From is the other one.
type Op struct {
	Kind, To, From int
}

// Program has registers that are given, that come out and that are there besides, numbered in this order.
type Program struct {
	Given, Out, Besides int
	Ops                 []Op
}

// Plain makes the program that adds up each sum for itself. Bit i of a sum stands for the given register i.
func Plain(given int, sums []uint64) Program {
	p := Program{Given: given, Out: len(sums)}
	for i, sum := range sums {
		to := given + i
		kind := api.Copy
		for from := range given {
			if sum>>uint(from)&1 == 1 {
				p.Ops = append(p.Ops, Op{Kind: kind, To: to, From: from})
				kind = api.Xor
			}
		}
		if kind == api.Copy {
			p.Ops = append(p.Ops, Op{Kind: api.Zero, To: to})
		}
	}
	return p
}

// Xors tells how many of the operations are exclusive ors.
func (p Program) Xors() int {
	count := 0
	for _, op := range p.Ops {
		if op.Kind == api.Xor {
			count++
		}
	}
	return count
}
