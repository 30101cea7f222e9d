package program

import "shards/api"

// machine is a program's registers while it runs. The first of them are the caller's: they are read alone.
type machine struct {
	given     int
	registers [][]byte
}

// Run gives the registers that come out, each of size bytes, block bytes at a time. Nil, if the given registers are not as many as the program asks for, or something is beyond its bounds.
func (p Program) Run(given [][]byte, size, block int) [][]byte {
	if !p.bounded() || len(given) != p.Given || size < 0 || size > api.MaxBytes {
		return nil
	}
	// No settings have a block below 1; a step of nought would not end.
	if block < 1 {
		block = 1
	}
	m := machine{given: len(given)}
	m.registers = append(m.registers, given...)
	for range p.Out + p.Besides {
		m.registers = append(m.registers, make([]byte, size))
	}
	for start := 0; start < size; {
		count := block
		if count > size-start {
			count = size - start
		}
		for _, op := range p.Ops {
			m.do(op, start, start+count)
		}
		start += count
	}
	out := [][]byte{}
	for i := range p.Out {
		out = append(out, m.registers[len(given)+i])
	}
	return out
}

// do does an operation at the places from start up to end, as far as both registers reach.
func (m *machine) do(op Op, start, end int) {
	if op.To < m.given || op.To >= len(m.registers) || op.From < 0 || op.From >= len(m.registers) {
		return
	}
	to := m.registers[op.To]
	from := m.registers[op.From]
	for i := start; i < end && i < len(to) && i < len(from); i++ {
		switch op.Kind {
		case api.Zero:
			to[i] = 0
		case api.Copy:
			to[i] = from[i]
		case api.Xor:
			to[i] ^= from[i]
		}
	}
}
