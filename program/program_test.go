package program

import (
	"bytes"
	"reflect"
	"testing"

	"shards/api"
)

func TestPlain(t *testing.T) {
	got := Plain(3, []uint64{0b101, 0, 0b010, 0b111})
	want := Program{Given: 3, Out: 4, Ops: []Op{
		{api.Copy, 3, 0}, {api.Xor, 3, 2},
		{api.Zero, 4, 0},
		{api.Copy, 5, 1},
		{api.Copy, 6, 0}, {api.Xor, 6, 1}, {api.Xor, 6, 2},
	}}
	if !reflect.DeepEqual(got, want) {
		t.Errorf("Plain = %+v, want %+v", got, want)
	}
}

func TestRunBlocks(t *testing.T) {
	p := Plain(2, []uint64{0b11, 0, 0b10})
	a := []byte("abcdefg")
	b := []byte("hijklmn")
	for block := -1; block <= 9; block++ {
		out := p.Run([][]byte{a, b}, 7, block)
		if len(out) != 3 {
			t.Fatalf("block %d: %d registers come out", block, len(out))
		}
		for i := range 7 {
			if out[0][i] != a[i]^b[i] || out[1][i] != 0 || out[2][i] != b[i] {
				t.Errorf("block %d: place %d: %v", block, i, out)
			}
		}
	}
	if string(a) != "abcdefg" || string(b) != "hijklmn" {
		t.Errorf("what was given is now %q, %q", a, b)
	}
}

func TestRunBesides(t *testing.T) {
	p := Program{Given: 2, Out: 2, Besides: 1, Ops: []Op{{1, 4, 0}, {2, 4, 1}, {1, 2, 4}, {0, 3, 0}, {2, 3, 1}}}
	out := p.Run([][]byte{[]byte("ab"), []byte("cd")}, 2, 1)
	if len(out) != 2 || !bytes.Equal(out[0], []byte{2, 6}) || !bytes.Equal(out[1], []byte("cd")) {
		t.Errorf("Run = %v", out)
	}
}

func TestRunWrong(t *testing.T) {
	p := Plain(2, []uint64{3})
	for _, given := range [][][]byte{nil, {{1}}, {{1}, {2}, {3}}} {
		if out := p.Run(given, 1, 1); out != nil {
			t.Errorf("Run(%v) = %v", given, out)
		}
	}
	for _, size := range []int{-1, 49, 1<<63 - 1} {
		if out := p.Run([][]byte{{1}, {2}}, size, 1); out != nil {
			t.Errorf("Run of size %d = %v", size, out)
		}
	}
	for _, q := range []Program{{Out: -1}, {Out: 41}, {Besides: -1}, {Besides: 17}, {Out: 1<<63 - 1, Besides: 1}} {
		if out := q.Run(nil, 1, 1); out != nil {
			t.Errorf("Run of %+v = %v", q, out)
		}
	}
	wild := Program{Given: 1, Out: 1, Ops: []Op{{0, 0, 0}, {1, 1, 9}, {1, 9, 1}, {2, -1, 0}, {2, 1, -1}, {7, 1, 0}}}
	in := []byte{5}
	if out := wild.Run([][]byte{in}, 1, 1); len(out) != 1 || !bytes.Equal(out[0], []byte{0}) || in[0] != 5 {
		t.Errorf("operations on what is no register: %v, given %v", out, in)
	}
	if out := p.Run([][]byte{{1}, {}}, 1, 1); len(out) != 1 || len(out[0]) != 1 {
		t.Errorf("a given register that is too short: %v", out)
	}
}
