package shards_test

import (
	"math"
	"math/rand"
	"testing"

	"shards/api"
	"shards/shards"
)

// roomy: shards that lie in one field of bytes with room between and behind them, in a list with room behind it.
func roomy(l [][]byte) (list [][]byte, under []byte) {
	for _, b := range l {
		under = append(under, b...)
		under = append(under, 0xaa, 0xaa, 0xaa)
	}
	at := 0
	list = make([][]byte, 0, len(l)+3)
	for _, b := range l {
		list = append(list, under[at:at+len(b)])
		at += len(b) + 3
	}
	room := list[:cap(list)]
	for i := len(l); i < len(room); i++ {
		room[i] = []byte{0xbb}
	}
	return list, under
}

func TestP2HandedIn(t *testing.T) {
	for _, s := range everyCode() {
		x := coder(t, s, api.Settings{Block: 5, Cache: 1})
		d := data(s, 4)
		all := append(d[:s.K:s.K], parity(s, d)...)
		for _, in := range [][][]byte{d, all, all[1:]} {
			list, under := roomy(in)
			before := string(under)
			x.Encode(list)
			x.Verify(list)
			if string(under) != before {
				t.Errorf("P2: %+v: what was handed in was written into", s)
			}
			for i, b := range list[:cap(list)] {
				if i < len(in) && string(b) != string(in[i]) || i >= len(in) && (len(b) != 1 || b[0] != 0xbb) {
					t.Errorf("P2: %+v: place %d of the list that was handed in is now %x", s, i, b)
				}
			}
		}
	}
}

func scribble(l [][]byte) {
	for i := range l {
		b := l[i][:cap(l[i])]
		for j := range b {
			b[j] ^= 0x5a
		}
	}
	for i := range l[:cap(l)] {
		l[:cap(l)][i] = nil
	}
}

func TestP2ComesOut(t *testing.T) {
	for _, s := range everyCode() {
		x := coder(t, s, api.Settings{Block: 64, Cache: 1})
		d := data(s, 3)
		want := parity(s, d)
		for i := range s.M {
			p := encode(t, x, d)
			scribble(p[i : i+1 : i+1])
			for j := range p {
				if j != i && string(p[j]) != string(want[j]) {
					t.Errorf("P2: %+v: shards %d and %d that came out share bytes or room", s, i, j)
				}
			}
		}
		a := encode(t, x, d)
		b := encode(t, x, d)
		scribble(a)
		if !same(b, want) {
			t.Errorf("P2: %+v: two answers share bytes or room", s)
		}
		if c := encode(t, x, d); !same(c, want) {
			t.Errorf("P2: %+v: an answer is changed by what was done to another: %x", s, c)
		}
		in := data(s, 3)
		kept := encode(t, x, in)
		scribble(in)
		if !same(kept, want) {
			t.Errorf("P2: %+v: what came out shares bytes with what was handed in", s)
		}
		if !same(d, data(s, 3)) {
			t.Errorf("P2: %+v: what came out shares bytes with what was handed in", s)
		}
	}
}

func TestP2Settings(t *testing.T) {
	for _, s := range everyCode() {
		d := data(s, 48)
		want := parity(s, d)
		all := append(d[:s.K:s.K], want...)
		for level := range 4 {
			for _, scratch := range []int{0, 1, 16} {
				for _, block := range []int{1, 7, 47, 48, 49, 64} {
					set := api.Settings{Level: level, Scratch: scratch, Block: block, Cache: block % 5}
					x := coder(t, s, set)
					if p := encode(t, x, d); !same(p, want) {
						t.Errorf("P2: %+v with %+v: Encode = %x", s, set, p)
					}
					if y, e := x.Verify(all); !y || e != api.OK {
						t.Errorf("P2: %+v with %+v: Verify = %v, %d", s, set, y, e)
					}
				}
			}
		}
	}
}

// One and the same bytes may stand in several shards.
func TestP2SameBytes(t *testing.T) {
	s := examples[0].s
	b := []byte{1, 2, 3, 4}
	x := coder(t, s, plain)
	d := [][]byte{b, b, b}
	if p := encode(t, x, d); !same(p, parity(s, d)) {
		t.Errorf("P4: of three times the same shard: %x", p)
	}
	if string(b) != "\x01\x02\x03\x04" {
		t.Errorf("P2: what was handed in is now %x", b)
	}
}

func TestP1AnyLists(t *testing.T) {
	r := rand.New(rand.NewSource(1))
	numbers := []int{math.MinInt, -1, 0, 1, 2, 3, 4, 5, 9, 10, 63, 64, 1 << 62, math.MaxInt}
	for _, s := range everyCode() {
		x := coder(t, s, api.Settings{Level: r.Intn(4), Scratch: r.Intn(17), Block: 1 + r.Intn(64), Cache: r.Intn(5)})
		for range 100 {
			l := make([][]byte, r.Intn(12))
			for i := range l {
				if r.Intn(5) > 0 {
					l[i] = make([]byte, rowsOf(s)*r.Intn(3))
				}
			}
			lost := make([]int, r.Intn(5))
			for i := range lost {
				lost[i] = numbers[r.Intn(len(numbers))]
			}
			callAll(t, x, l, lost)
		}
	}
}

// callAll: no call panics, and with an error there is nothing else.
func callAll(t *testing.T, x *shards.Coder, l [][]byte, lost []int) {
	t.Helper()
	if p, e := x.Encode(l); (p == nil) != (e != api.OK) || e != api.OK && e != api.ErrShape {
		t.Errorf("P1: Encode(%v) = %v, %d", l, p, e)
	}
	if y, e := x.Verify(l); y && e != api.OK || e != api.OK && e != api.ErrShape {
		t.Errorf("P1: Verify(%v) = %v, %d", l, y, e)
	}
	if p, e := x.Reconstruct(l, lost); e != api.OK && p != nil {
		t.Errorf("P1: Reconstruct(%v, %v) = %v, %d", l, lost, p, e)
	}
	if p, e := x.Program(lost); e != api.OK && p != "" {
		t.Errorf("P1: Program(%v) = %q, %d", lost, p, e)
	}
	for _, j := range lost {
		if p, e := x.Update(l, j, nil, nil); e != api.OK && p != nil {
			t.Errorf("P1: Update(%v, %d) = %v, %d", l, j, p, e)
		}
	}
	for _, b := range l {
		if n, e := shards.Count(string(b)); e != api.OK && n != nil {
			t.Errorf("P1: Count(%q) = %v, %d", b, n, e)
		}
		if out, e := shards.Run(string(b), l); e != api.OK && out != nil {
			t.Errorf("P1: Run(%q, %v) = %v, %d", b, l, out, e)
		}
	}
	x.Rows()
	if n := x.Kept(); n < 0 || n > api.MaxCache {
		t.Errorf("P7: Kept = %d", n)
	}
}

// A coder that New did not make has no code.
func TestP1NoCoder(t *testing.T) {
	for _, x := range []*shards.Coder{nil, {}} {
		for _, l := range [][][]byte{nil, {}, {nil}, {{1}}, {{1}, {2}}} {
			for _, lost := range [][]int{nil, {0}, {-1, 1 << 40}} {
				callAll(t, x, l, lost)
			}
			if p, e := x.Encode(l); p != nil || e != api.ErrShape {
				t.Errorf("P1: Encode(%v) of no coder = %v, %d", l, p, e)
			}
			if y, e := x.Verify(l); y || e != api.ErrShape {
				t.Errorf("P1: Verify(%v) of no coder = %v, %d", l, y, e)
			}
		}
		if x.Rows() != 0 || x.Kept() != 0 {
			t.Errorf("P1: of no coder Rows = %d, Kept = %d", x.Rows(), x.Kept())
		}
	}
}
