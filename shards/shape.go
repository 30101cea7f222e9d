package shards

import (
	"shards/api"
	"shards/code"
)

// fit tells whether there are so many shards, and those that are not lost are all of one length that a shard can have.
func (x *Coder) fit(shards [][]byte, count int, pattern int) bool {
	if len(shards) != count {
		return false
	}
	length := 0
	for i, shard := range shards {
		if isLost(pattern, i) {
			continue
		}
		if length == 0 {
			length = len(shard)
		}
		if len(shard) == 0 || len(shard) != length {
			return false
		}
	}
	rows := code.Rows(x.spec)
	return rows > 0 && length > 0 && length%rows == 0 && length/rows <= api.MaxBytes
}

// parityOf makes the parity of K shards of data that fit.
func (x *Coder) parityOf(data [][]byte) [][]byte {
	rows := code.Rows(x.spec)
	p := x.want(nothingLost)
	given := rowsOf(data, rows)
	size := 0
	if len(given) > 0 {
		size = len(given[0])
	}
	out := p.Run(given, size, x.set.Block)
	return shardsOf(out, rows)
}

// rowsOf cuts shards into their rows, which still lie where the shards lie.
func rowsOf(shards [][]byte, rows int) [][]byte {
	cut := [][]byte{}
	if rows < 1 {
		return cut
	}
	for _, shard := range shards {
		size := len(shard) / rows
		for r := range rows {
			cut = append(cut, shard[r*size:r*size+size])
		}
	}
	return cut
}

// shardsOf lays rows together to fresh shards.
func shardsOf(cut [][]byte, rows int) [][]byte {
	shards := [][]byte{}
	if rows < 1 {
		return shards
	}
	for i := 0; i+rows <= len(cut); i += rows {
		shard := []byte{}
		for _, row := range cut[i : i+rows] {
			shard = append(shard, row...)
		}
		shards = append(shards, shard)
	}
	return shards
}
