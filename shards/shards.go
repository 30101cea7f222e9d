// Package shards: erasure codes over bytes: see DOC.md.
package shards

import (
	"shards/api"
	"shards/code"
	"shards/program"
)

// Coder is a code with its settings, and what it keeps.
type Coder struct {
	spec api.Spec
	set  api.Settings
	// An array, so that a copy of a coder shares nothing with it that changes.
	kept  [api.MaxCache]keptProgram
	count int
}

// New makes a coder (P3).
func New(s api.Spec, set api.Settings) (*Coder, api.Errno) {
	if !code.Exists(s) {
		return nil, api.ErrSpec
	}
	if !settingsExist(set) {
		return nil, api.ErrSet
	}
	return &Coder{spec: s, set: set}, api.OK
}

func settingsExist(set api.Settings) bool {
	if set.Level < 0 || set.Level > api.MaxLevel {
		return false
	}
	if set.Scratch < 0 || set.Scratch > api.MaxScratch {
		return false
	}
	if set.Block < 1 || set.Block > api.MaxBlock {
		return false
	}
	return set.Cache >= 0 && set.Cache <= api.MaxCache
}

// Rows tells how many rows a shard has (P3).
func (x *Coder) Rows() int {
	if x == nil {
		return 0
	}
	return code.Rows(x.spec)
}

// Encode makes the shards of parity (P5).
func (x *Coder) Encode(data [][]byte) ([][]byte, api.Errno) {
	if x == nil || !x.fit(data, x.spec.K, nothingLost) {
		return nil, api.ErrShape
	}
	parity := x.made(nothingLost, data)
	return parity, api.OK
}

// Verify tells whether the parity is the data's (P6).
func (x *Coder) Verify(shards [][]byte) (bool, api.Errno) {
	if x == nil || !x.fit(shards, x.spec.K+x.spec.M, nothingLost) {
		return false, api.ErrShape
	}
	parity := x.made(nothingLost, shards[:x.spec.K])
	for i, shard := range parity {
		// As strings they are compared whole; no byte is kept.
		if string(shard) != string(shards[x.spec.K+i]) {
			return false, api.OK
		}
	}
	return true, api.OK
}

// Kept tells how many programs are kept (P7).
func (x *Coder) Kept() int {
	if x == nil {
		return 0
	}
	return x.count
}

// Reconstruct gives back what is lost (P8).
func (x *Coder) Reconstruct(shards [][]byte, lost []int) ([][]byte, api.Errno) {
	pattern, e := x.patternOf(lost)
	if e != api.OK {
		return nil, e
	}
	if !x.fit(shards, x.spec.K+x.spec.M, pattern) {
		return nil, api.ErrShape
	}
	// Where nothing is lost no program is wanted (P7).
	back := [][]byte{}
	if pattern != nothingLost {
		from := firstLeft(shards, pattern, x.spec.K)
		back = x.made(pattern, from)
	}
	return completed(shards, pattern, back), api.OK
}

// Update turns the parity when a shard of data is turned (P9).
func (x *Coder) Update(parity [][]byte, j int, old []byte, now []byte) ([][]byte, api.Errno) {
	if x == nil || j < 0 || j >= x.spec.K {
		return nil, api.ErrPattern
	}
	from := [][]byte{}
	from = append(from, parity...)
	from = append(from, old, now)
	if !x.fit(from, x.spec.M+2, nothingLost) {
		return nil, api.ErrShape
	}
	// No program is wanted here (P7): this one is not kept.
	sums := code.Turned(x.spec, j)
	rows := code.Rows(x.spec)
	p := program.Plain(len(from)*rows, sums)
	turned := x.run(p, from)
	return turned, api.OK
}

// Program writes the program for some losses (P10, P12).
func (x *Coder) Program(lost []int) (string, api.Errno) {
	pattern, e := x.patternOf(lost)
	if e != api.OK {
		return "", e
	}
	p := x.want(pattern)
	return p.Text(), api.OK
}

// Count tells of what a program is (P11).
func Count(s string) ([]int, api.Errno) {
	p, ok := program.Read(s)
	if !ok {
		return nil, api.ErrProgram
	}
	return []int{p.Given, p.Out, p.Besides, p.Xors()}, api.OK
}

// Run runs a program over registers (P11).
func Run(s string, in [][]byte) ([][]byte, api.Errno) {
	p, ok := program.Read(s)
	if !ok {
		return nil, api.ErrProgram
	}
	size, even := lengthOf(in)
	if len(in) != p.Given || !even || size > api.MaxBytes {
		return nil, api.ErrShape
	}
	out := p.Run(in, size, api.MaxBlock)
	return out, api.OK
}
