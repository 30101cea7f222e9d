package program

import "shards/api"

// filled tells of a program's registers in which something stands.
type filled struct {
	given, all int
	registers  [api.MaxIn + api.MaxOut + api.MaxScratch]bool
}

// sound tells whether the program is one (P11).
func (p Program) sound() bool {
	if !p.bounded() {
		return false
	}
	f := filled{given: p.Given, all: p.Given + p.Out + p.Besides}
	for i := range p.Given {
		f.registers[i] = true
	}
	for _, op := range p.Ops {
		if !f.allows(op) {
			return false
		}
		f.registers[op.To] = true
	}
	for i := range p.Out {
		if !f.registers[p.Given+i] {
			return false
		}
	}
	return true
}

func (p Program) bounded() bool {
	if p.Given < 0 || p.Given > api.MaxIn || p.Out < 0 || p.Out > api.MaxOut {
		return false
	}
	return p.Besides >= 0 && p.Besides <= api.MaxScratch && len(p.Ops) <= api.MaxOps
}

// allows tells whether an operation writes no given register, and reads none in which nothing stands yet.
func (f *filled) allows(op Op) bool {
	if op.To < f.given || op.To >= f.all || op.From < 0 || op.From >= f.all {
		return false
	}
	switch op.Kind {
	case api.Zero:
		return op.From == 0
	case api.Copy:
		return f.registers[op.From]
	case api.Xor:
		return f.registers[op.From] && f.registers[op.To]
	}
	return false
}
