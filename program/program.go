// Package program: lists of operations on registers by which sums are made.
package program

import "shards/api"

// Op is an operation: of the kind api.Zero, api.Copy or api.Xor, on the register To; From is the other one.
type Op struct {
	Kind, To, From int
}

// Program has registers that are given, that come out and that are there besides, numbered in this order.
type Program struct {
	Given, Out, Besides int
	Ops                 []Op
}

// Plain makes the program that adds up each sum for itself. Bit i of a sum stands for the given register i.
func Plain(given int, sums []uint64) Program {
	p := Program{Given: given, Out: len(sums)}
	for i, sum := range sums {
		p.sum(given+i, sum)
	}
	return p
}

// sum makes a register the sum of terms.
func (p *Program) sum(to int, terms uint64) {
	if terms == 0 {
		p.lay(api.Zero, to, 0)
		return
	}
	p.add(api.Copy, to, terms)
}

// add lays terms into a register: the first by an operation of the kind told, for in a register where nothing stands yet it is a copy, and the others by exclusive ors.
func (p *Program) add(kind, to int, terms uint64) {
	for i := 0; terms>>uint(i) != 0; i++ {
		if terms>>uint(i)&1 == 1 {
			from := p.term(i)
			p.lay(kind, to, from)
			kind = api.Xor
		}
	}
}

// term tells which register bit i of a word of terms stands for: the first bits are the given ones, those behind them the ones besides.
func (p *Program) term(i int) int {
	if i < p.Given {
		return i
	}
	return i + p.Out
}

func (p *Program) lay(kind, to, from int) {
	p.Ops = append(p.Ops, Op{Kind: kind, To: to, From: from})
}

// Xors tells how many of the operations are exclusive ors.
func (p Program) Xors() int {
	count := 0
	for _, op := range p.Ops {
		if op.Kind == api.Xor {
			count++
		}
	}
	return count
}

func ones(word uint64) int {
	count := 0
	for word != 0 {
		// This takes away the lowest of the ones.
		word &= word - 1
		count++
	}
	return count
}
