package shards

import (
	"shards/api"
	"shards/code"
	"shards/program"
)

// fit tells whether there are so many shards, and those that are not lost are all of one length that a shard can have.
func (x *Coder) fit(shards [][]byte, count int, pattern int) bool {
	if len(shards) != count {
		return false
	}
	left := firstLeft(shards, pattern, count)
	length, even := lengthOf(left)
	rows := code.Rows(x.spec)
	return even && rows > 0 && length > 0 && length%rows == 0 && length/rows <= api.MaxBytes
}

// lengthOf gives the length that all in a list are of (of none: 0). False, if they are not all of one.
func lengthOf(list [][]byte) (int, bool) {
	length := 0
	for i, bytes := range list {
		if i == 0 {
			length = len(bytes)
		}
		if len(bytes) != length {
			return 0, false
		}
	}
	return length, true
}

// made runs the program of a pattern over the K shards that it is made for.
func (x *Coder) made(pattern int, from [][]byte) [][]byte {
	p := x.want(pattern)
	return x.run(p, from)
}

// run runs a program over the rows of shards that fit, and lays what comes out together to shards.
func (x *Coder) run(p program.Program, from [][]byte) [][]byte {
	rows := code.Rows(x.spec)
	given := rowsOf(from, rows)
	size := 0
	if len(given) > 0 {
		size = len(given[0])
	}
	out := p.Run(given, size, x.set.Block)
	return shardsOf(out, rows)
}

// rowsOf cuts shards into their rows, which still lie where the shards lie.
func rowsOf(shards [][]byte, rows int) [][]byte {
	cut := [][]byte{}
	if rows < 1 {
		return cut
	}
	for _, shard := range shards {
		size := len(shard) / rows
		for r := range rows {
			cut = append(cut, shard[r*size:r*size+size])
		}
	}
	return cut
}

// shardsOf lays rows together to fresh shards.
func shardsOf(cut [][]byte, rows int) [][]byte {
	shards := [][]byte{}
	if rows < 1 {
		return shards
	}
	for i := 0; i+rows <= len(cut); i += rows {
		shard := []byte{}
		for _, row := range cut[i : i+rows] {
			shard = append(shard, row...)
		}
		shards = append(shards, shard)
	}
	return shards
}

// firstLeft gives the first so many shards that are not lost, which still lie where they lie.
func firstLeft(shards [][]byte, pattern, count int) [][]byte {
	left := [][]byte{}
	for i, shard := range shards {
		if !code.IsLost(pattern, i) && len(left) < count {
			left = append(left, shard)
		}
	}
	return left
}

// completed gives fresh shards: in place of those that are lost those that came back, by their numbers.
func completed(shards [][]byte, pattern int, back [][]byte) [][]byte {
	all := [][]byte{}
	next := 0
	for i, shard := range shards {
		from := shard
		if code.IsLost(pattern, i) && next < len(back) {
			from = back[next]
			next++
		}
		whole := []byte{}
		whole = append(whole, from...)
		all = append(all, whole)
	}
	return all
}
