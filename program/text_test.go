package program

import (
	"reflect"
	"slices"
	"strings"
	"testing"

	"shards/api"
)

const example = "XP\x02\x02\x01\x05\x00\x01\x04\x00\x02\x04\x01\x01\x02\x04\x00\x03\x00\x02\x03\x01"

func exampleProgram() Program {
	return Program{Given: 2, Out: 2, Besides: 1, Ops: []Op{{1, 4, 0}, {2, 4, 1}, {1, 2, 4}, {0, 3, 0}, {2, 3, 1}}}
}

func TestTextAndRead(t *testing.T) {
	p := exampleProgram()
	if text := p.Text(); text != example {
		t.Errorf("P11: Text = %q", text)
	}
	if q, ok := Read(example); !ok || !reflect.DeepEqual(q, p) {
		t.Errorf("P11: Read = %+v, %v", q, ok)
	}
	if n := p.Xors(); n != 2 {
		t.Errorf("P11: Xors = %d", n)
	}
}

// greatest: all that a program may have.
func greatest() Program {
	p := Program{Given: api.MaxIn, Out: api.MaxOut, Besides: api.MaxScratch}
	for i := range api.MaxOut + api.MaxScratch {
		p.Ops = append(p.Ops, Op{api.Copy, api.MaxIn + i, i % api.MaxIn})
	}
	for len(p.Ops) < api.MaxOps {
		p.Ops = append(p.Ops, Op{api.Xor, api.MaxIn, 103})
	}
	return p
}

func TestTextGreatest(t *testing.T) {
	p := greatest()
	text := p.Text()
	if !strings.HasPrefix(text, "XP\x30\x28\x10\x00\x08") || len(text) != 7+3*2048 {
		t.Fatalf("P11: Text of the greatest program is %d bytes: %q", len(text), text)
	}
	if q, ok := Read(text); !ok || !reflect.DeepEqual(q, p) {
		t.Errorf("P11: the greatest program is read otherwise: %+v, %v", q, ok)
	}
	if n := p.Xors(); n != 2048-56 {
		t.Errorf("P11: Xors = %d", n)
	}
}

// What is no program has no text: its numbers would not fit, or nobody could read it.
func TestTextOfNone(t *testing.T) {
	check := func(what string, change func(p *Program)) {
		p := greatest()
		change(&p)
		if text := p.Text(); text != "" {
			t.Errorf("P11: %s: Text = %q", what, text)
		}
	}
	for _, i := range []int{-1 << 63, -256, -1, 49, 256, 304, 1<<63 - 1} {
		check("given", func(p *Program) { p.Given = i })
		check("out", func(p *Program) { p.Out = i })
		check("besides", func(p *Program) { p.Besides = i })
	}
	check("too many operations", func(p *Program) { p.Ops = append(p.Ops, Op{api.Zero, 48, 0}) })
	check("too few operations", func(p *Program) { p.Ops = p.Ops[1:] })
	for _, op := range []Op{{-1, 50, 0}, {3, 50, 0}, {256, 50, 0}, {0, 47, 0}, {0, 104, 0}, {0, 304, 0}, {0, -1, 0}, {0, 50, 1}, {0, 50, 256}, {0, 50, -1}, {1, 0, 1}, {1, 50, 104}, {1, 50, -1}, {1, 104, 50}, {2, 50, 304}, {2, -1 << 63, 1}, {2, 1<<63 - 1, 1}} {
		check("an operation", func(p *Program) {
			p.Ops = slices.Clone(p.Ops)
			p.Ops[2047] = op
		})
	}
	if p := (Program{}); p.Text() != "XP\x00\x00\x00\x00\x00" {
		t.Errorf("P11: Text of nothing = %q", p.Text())
	}
}

func TestReadNone(t *testing.T) {
	for _, text := range []string{"", "X", "XP", "xp\x00\x00\x00\x00\x00", "XQ\x00\x00\x00\x00\x00", example[:6], example + "\x00", example[1:], "XP" + example} {
		if p, ok := Read(text); ok || !reflect.DeepEqual(p, Program{}) {
			t.Errorf("P11: Read(%q) = %+v, %v", text, p, ok)
		}
	}
}

// A register stands empty until something is laid in it, in the order of the operations.
func TestReadOrder(t *testing.T) {
	for _, c := range []struct {
		ops []Op
		ok  bool
	}{
		{[]Op{{0, 1, 0}, {1, 2, 1}}, true},
		{[]Op{{1, 2, 1}, {0, 1, 0}}, false},
		{[]Op{{0, 2, 0}, {2, 2, 0}, {1, 1, 2}}, true},
		{[]Op{{2, 2, 0}, {0, 2, 0}, {1, 1, 2}}, false},
		{[]Op{{1, 1, 0}, {2, 1, 2}}, false},
		{[]Op{{1, 2, 0}}, false},
		{[]Op{{1, 1, 0}}, true},
	} {
		p := Program{Given: 1, Out: 1, Besides: 1, Ops: c.ops}
		if p.sound() != c.ok {
			t.Errorf("P11: %+v is a program: %v", p, !c.ok)
		}
	}
}
