package shards_test

import (
	"math"
	"math/rand"
	"slices"
	"testing"

	"shards/api"
	"shards/shards"
)

// roomy: shards that lie in one field of bytes with room between and behind them, in a list with room behind it.
func roomy(l [][]byte) (list [][]byte, under []byte) {
	for _, b := range l {
		under = append(under, b...)
		under = append(under, 0xaa, 0xaa, 0xaa)
	}
	at := 0
	list = make([][]byte, 0, len(l)+3)
	for _, b := range l {
		list = append(list, under[at:at+len(b)])
		at += len(b) + 3
	}
	room := list[:cap(list)]
	for i := len(l); i < len(room); i++ {
		room[i] = []byte{0xbb}
	}
	return list, under
}

// watched: a list with room behind it and what it looked like.
type watched struct {
	list, was [][]byte
	under     []byte
	before    string
}

func watch(l [][]byte) watched {
	list, under := roomy(l)
	return watched{list, l, under, string(under)}
}

func (w watched) check(t *testing.T, s api.Spec) {
	t.Helper()
	if string(w.under) != w.before {
		t.Errorf("P2: %+v: what was handed in was written into", s)
	}
	for i, b := range w.list[:cap(w.list)] {
		if i < len(w.was) && string(b) != string(w.was[i]) || i >= len(w.was) && (len(b) != 1 || b[0] != 0xbb) {
			t.Errorf("P2: %+v: place %d of the list that was handed in is now %x", s, i, b)
		}
	}
}

func TestP2HandedIn(t *testing.T) {
	for _, s := range everyCode() {
		x := coder(t, s, api.Settings{Block: 5, Cache: 1})
		d := data(s, 4)
		all := append(d[:s.K:s.K], parity(s, d)...)
		for _, in := range [][][]byte{d, all, all[1:]} {
			w := watch(in)
			x.Encode(w.list)
			x.Verify(w.list)
			w.check(t, s)
		}
	}
}

func TestP2HandedInLost(t *testing.T) {
	for _, s := range everyCode() {
		x := coder(t, s, api.Settings{Block: 5, Cache: 1})
		for _, pattern := range []int{0, 1, 1 << s.K, 1<<s.M - 1, 1 << (s.M + 1), 1<<(s.M+1) - 1} {
			lost := append(numbers(pattern), 99, 98)
			was := slices.Clone(lost)
			for _, in := range [][][]byte{all(s, 4), without(all(s, 4), numbers(pattern&(1<<(s.K+s.M)-1))), all(s, 4)[1:]} {
				w := watch(in)
				x.Reconstruct(w.list, lost[:len(lost)-2])
				x.Program(lost[:len(lost)-2])
				w.check(t, s)
			}
			if !slices.Equal(lost, was) {
				t.Errorf("P2: %+v: the list of what is lost is now %v, was %v", s, lost, was)
			}
		}
	}
}

func TestP2HandedInUpdate(t *testing.T) {
	for _, s := range everyCode() {
		x := coder(t, s, api.Settings{Block: 5, Cache: 1})
		for _, in := range [][][]byte{all(s, 4), all(s, 4)[1:]} {
			for j := range s.K + 1 {
				p := watch(in[len(in)-s.M:])
				two := watch([][]byte{in[0], other(len(in[0]), j)})
				x.Update(p.list, j, two.list[0], two.list[1])
				x.Update(p.list[1:], j, two.list[0], two.list[1])
				p.check(t, s)
				two.check(t, s)
			}
		}
	}
}

func scribble(l [][]byte) {
	for i := range l {
		b := l[i][:cap(l[i])]
		for j := range b {
			b[j] ^= 0x5a
		}
	}
	for i := range l[:cap(l)] {
		l[:cap(l)][i] = nil
	}
}

// freshly: no two shards of an answer share bytes or room, nor two answers, nor an answer and what was handed in.
func freshly(t *testing.T, s api.Spec, in, want [][]byte, call func(in [][]byte) [][]byte) {
	t.Helper()
	for i := range want {
		out := call(in)
		scribble(out[i : i+1 : i+1])
		for j := range out {
			if j != i && string(out[j]) != string(want[j]) {
				t.Errorf("P2: %+v: shards %d and %d that came out share bytes or room", s, i, j)
			}
		}
	}
	a, b := call(in), call(in)
	scribble(a)
	if !same(b, want) {
		t.Errorf("P2: %+v: two answers share bytes or room", s)
	}
	if c := call(in); !same(c, want) {
		t.Errorf("P2: %+v: an answer is changed by what was done to another: %x", s, c)
	}
	w := watch(in)
	out := call(w.list)
	scribble(out)
	w.check(t, s)
	out = call(w.list)
	scribble([][]byte{w.under})
	clear(w.list)
	if !same(out, want) {
		t.Errorf("P2: %+v: what came out shares bytes with what was handed in", s)
	}
}

func TestP2ComesOut(t *testing.T) {
	for _, s := range everyCode() {
		x := coder(t, s, api.Settings{Level: s.K % 4, Scratch: s.M, Block: 64, Cache: 1})
		d := data(s, 3)
		freshly(t, s, d, parity(s, d), func(in [][]byte) [][]byte { return encode(t, x, in) })
	}
}

func TestP2ComesOutLost(t *testing.T) {
	for _, s := range everyCode() {
		want := all(s, 3)
		for _, cache := range []int{0, 4} {
			x := coder(t, s, api.Settings{Level: s.K % 4, Scratch: s.M, Block: 64, Cache: cache})
			for _, pattern := range []int{0, 1, 1 << s.K, 1<<s.M - 1, (1<<s.M - 1) << s.K} {
				lost := numbers(pattern)
				freshly(t, s, without(want, lost), want, func(in [][]byte) [][]byte {
					return reconstruct(t, x, in, lost)
				})
			}
		}
	}
}

func TestP2ComesOutUpdate(t *testing.T) {
	for _, s := range everyCode() {
		x := coder(t, s, api.Settings{Block: 64, Cache: 1})
		d := data(s, 3)
		for j := range s.K {
			in := append(parity(s, d), d[j], other(len(d[j]), j))
			turned := slices.Clone(d)
			turned[j] = in[s.M+1]
			freshly(t, s, in, parity(s, turned), func(in [][]byte) [][]byte {
				return update(t, x, in[:s.M], j, in[s.M], in[s.M+1])
			})
		}
	}
}

// A list of what is lost is not kept: the caller may write into it.
func TestP2LostNotKept(t *testing.T) {
	x := coder(t, examples[0].s, api.Settings{Block: 1, Cache: 4})
	lost := []int{0, 3}
	for range 2 {
		if out := reconstruct(t, x, without(whole(), lost), lost); !same(out, whole()) {
			t.Errorf("P8: without %v: %x", lost, out)
		}
		lost[0], lost[1] = 4, 1
	}
	wantKept(t, x, 2, "Reconstruct with one list twice")
}

func TestP2Settings(t *testing.T) {
	for _, s := range everyCode() {
		d := data(s, 48)
		want := parity(s, d)
		all := append(d[:s.K:s.K], want...)
		for level := range 4 {
			for _, scratch := range []int{0, 1, 16} {
				for _, block := range []int{1, 7, 47, 48, 49, 64} {
					set := api.Settings{Level: level, Scratch: scratch, Block: block, Cache: block % 5}
					x := coder(t, s, set)
					if p := encode(t, x, d); !same(p, want) {
						t.Errorf("P2: %+v with %+v: Encode = %x", s, set, p)
					}
					if y, e := x.Verify(all); !y || e != api.OK {
						t.Errorf("P2: %+v with %+v: Verify = %v, %d", s, set, y, e)
					}
					for _, lost := range [][]int{nil, {0}, {s.K}, numbers(1<<s.M - 1)} {
						if out := reconstruct(t, x, without(all, lost), lost); !same(out, all) {
							t.Errorf("P2: %+v with %+v: Reconstruct without %v = %x", s, set, lost, out)
						}
					}
					if p := update(t, x, want, s.K-1, d[0], d[0]); !same(p, want) {
						t.Errorf("P2: %+v with %+v: Update = %x", s, set, p)
					}
				}
			}
		}
	}
}

// One and the same bytes may stand in several shards.
func TestP2SameBytes(t *testing.T) {
	s := examples[0].s
	b := []byte{1, 2, 3, 4}
	x := coder(t, s, plain)
	d := [][]byte{b, b, b}
	if p := encode(t, x, d); !same(p, parity(s, d)) {
		t.Errorf("P4: of three times the same shard: %x", p)
	}
	all := append(d, parity(s, d)...)
	for i := range all {
		all[i] = b
	}
	for _, lost := range [][]int{nil, {3, 4}} {
		want := slices.Clone(all)
		if lost != nil {
			copy(want[3:], parity(s, d))
		}
		if out := reconstruct(t, x, all, lost); !same(out, want) {
			t.Errorf("P8: of five times the same shard without %v: %x", lost, out)
		}
	}
	if p := update(t, x, all[3:], 1, b, b); !same(p, all[3:]) {
		t.Errorf("P9: of four times the same shard: %x", p)
	}
	if string(b) != "\x01\x02\x03\x04" {
		t.Errorf("P2: what was handed in is now %x", b)
	}
}

func TestP1AnyLists(t *testing.T) {
	r := rand.New(rand.NewSource(1))
	numbers := []int{math.MinInt, -1, 0, 1, 2, 3, 4, 5, 9, 10, 63, 64, 1 << 62, math.MaxInt}
	for _, s := range everyCode() {
		x := coder(t, s, api.Settings{Level: r.Intn(4), Scratch: r.Intn(17), Block: 1 + r.Intn(64), Cache: r.Intn(5)})
		for range 100 {
			l := make([][]byte, r.Intn(12))
			for i := range l {
				if r.Intn(5) > 0 {
					l[i] = make([]byte, rowsOf(s)*r.Intn(3))
				}
			}
			lost := make([]int, r.Intn(5))
			for i := range lost {
				lost[i] = numbers[r.Intn(len(numbers))]
			}
			callAll(t, x, l, lost)
		}
	}
}

// callAll: no call panics, and with an error there is nothing else.
func callAll(t *testing.T, x *shards.Coder, l [][]byte, lost []int) {
	t.Helper()
	if p, e := x.Encode(l); (p == nil) != (e != api.OK) || e != api.OK && e != api.ErrShape {
		t.Errorf("P1: Encode(%v) = %v, %d", l, p, e)
	}
	if y, e := x.Verify(l); y && e != api.OK || e != api.OK && e != api.ErrShape {
		t.Errorf("P1: Verify(%v) = %v, %d", l, y, e)
	}
	if p, e := x.Reconstruct(l, lost); (p == nil) != (e != api.OK) || e != api.OK && (e < api.ErrPattern || e > api.ErrShape) {
		t.Errorf("P1: Reconstruct(%v, %v) = %v, %d", l, lost, p, e)
	}
	if p, e := x.Program(lost); (p == "") != (e != api.OK) || e != api.OK && e != api.ErrPattern && e != api.ErrLost {
		t.Errorf("P1: Program(%v) = %q, %d", lost, p, e)
	}
	for _, j := range append(lost, 0) {
		for _, b := range append(l, nil) {
			if p, e := x.Update(l, j, b, b); (p == nil) != (e != api.OK) || e != api.OK && e != api.ErrPattern && e != api.ErrShape {
				t.Errorf("P1: Update(%v, %d, %v) = %v, %d", l, j, b, p, e)
			}
		}
	}
	for _, b := range l {
		if n, e := shards.Count(string(b)); (n == nil) != (e != api.OK) || e != api.OK && e != api.ErrProgram {
			t.Errorf("P1: Count(%q) = %v, %d", b, n, e)
		}
		if out, e := shards.Run(string(b), l); (out == nil) != (e != api.OK) || e != api.OK && e != api.ErrProgram && e != api.ErrShape {
			t.Errorf("P1: Run(%q, %v) = %v, %d", b, l, out, e)
		}
	}
	x.Rows()
	if n := x.Kept(); n < 0 || n > api.MaxCache {
		t.Errorf("P7: Kept = %d", n)
	}
}

// A coder that New did not make has no code.
func TestP1NoCoder(t *testing.T) {
	for _, x := range []*shards.Coder{nil, {}} {
		for _, l := range [][][]byte{nil, {}, {nil}, {{1}}, {{1}, {2}}} {
			for _, lost := range [][]int{nil, {0}, {-1, 1 << 40}} {
				callAll(t, x, l, lost)
			}
			if p, e := x.Encode(l); p != nil || e != api.ErrShape {
				t.Errorf("P1: Encode(%v) of no coder = %v, %d", l, p, e)
			}
			if y, e := x.Verify(l); y || e != api.ErrShape {
				t.Errorf("P1: Verify(%v) of no coder = %v, %d", l, y, e)
			}
			if p, e := x.Reconstruct(l, nil); p != nil || e != api.ErrPattern {
				t.Errorf("P1: Reconstruct(%v) of no coder = %v, %d", l, p, e)
			}
			if p, e := x.Program(nil); p != "" || e != api.ErrPattern {
				t.Errorf("P1: Program of no coder = %q, %d", p, e)
			}
			if p, e := x.Update(l, 0, nil, nil); p != nil || e != api.ErrPattern {
				t.Errorf("P1: Update(%v) of no coder = %v, %d", l, p, e)
			}
		}
		if x.Rows() != 0 || x.Kept() != 0 {
			t.Errorf("P1: of no coder Rows = %d, Kept = %d", x.Rows(), x.Kept())
		}
	}
}
