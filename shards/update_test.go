package shards_test

import (
	"math"
	"slices"
	"testing"

	"shards/api"
	"shards/shards"
)

func update(t *testing.T, x *shards.Coder, p [][]byte, j int, old, now []byte) [][]byte {
	t.Helper()
	out, e := x.Update(p, j, old, now)
	if e != api.OK {
		t.Fatalf("P9: Update(%x, %d, %x, %x) answers %d", p, j, old, now, e)
	}
	return out
}

// other: so many bytes that are not those of data.
func other(length, j int) []byte {
	b := make([]byte, length)
	for i := range b {
		b[i] = byte(31*i + 7*j + 5)
	}
	return b
}

func TestP9EveryCode(t *testing.T) {
	for _, s := range everyCode() {
		x := coder(t, s, api.Settings{Level: s.K % 4, Scratch: s.M, Block: 5, Cache: 4})
		for _, size := range []int{1, 2, 5, 6, 47, 48} {
			for j := range s.K {
				d := data(s, size)
				p, old, now := parity(s, d), d[j], other(len(d[j]), j)
				d[j] = now
				if out, want := update(t, x, p, j, old, now), parity(s, d); !same(out, want) {
					t.Errorf("P9: %+v, rows of %d: Update of %d = %x, want %x", s, size, j, out, want)
				}
				if out := update(t, x, p, j, now, now); !same(out, p) {
					t.Errorf("P9: %+v: Update of %d to what it is = %x, want %x", s, j, out, p)
				}
			}
		}
		wantKept(t, x, 0, "Update")
	}
}

// The parity need not be any data's: the change is added to what it is.
func TestP9AnyParity(t *testing.T) {
	for _, s := range everyCode() {
		x := coder(t, s, plain)
		length := 3 * rowsOf(s)
		p := blank(s.M, length)
		for i := range p {
			copy(p[i], other(length, 40+i))
		}
		for j := range s.K {
			d := blank(s.K, length)
			old, now := other(length, j), other(length, j+20)
			for i := range length {
				d[j][i] = old[i] ^ now[i]
			}
			want := parity(s, d)
			for i := range want {
				for at := range want[i] {
					want[i][at] ^= p[i][at]
				}
			}
			if out := update(t, x, p, j, old, now); !same(out, want) {
				t.Errorf("P9: %+v: Update of %d = %x, want %x", s, j, out, want)
			}
		}
	}
}

// Of errors the first that applies is told: of the number, of the shards.
func TestP9Errors(t *testing.T) {
	for _, s := range everyCode() {
		x := coder(t, s, api.Settings{Level: 3, Scratch: 16, Block: 64, Cache: 4})
		rows := rowsOf(s)
		shard := make([]byte, 2*rows)
		for _, j := range []int{math.MinInt, -1, s.K, s.K + s.M, 64, 1 << 32, 1 << 62, math.MaxInt} {
			for _, p := range [][][]byte{blank(s.M, 2*rows), blank(s.M+1, 1), nil} {
				for _, b := range [][]byte{shard, {}, nil} {
					if out, e := x.Update(p, j, b, shard); out != nil || e != api.ErrPattern {
						t.Errorf("P9: %+v: Update of %d = %x, %d", s, j, out, e)
					}
				}
			}
		}
		for j := range s.K {
			wrongShapes(t, s, x, j)
		}
		wantKept(t, x, 0, "errors")
	}
}

func wrongShapes(t *testing.T, s api.Spec, x *shards.Coder, j int) {
	rows := rowsOf(s)
	shard := make([]byte, 2*rows)
	check := func(p [][]byte, old, now []byte) {
		t.Helper()
		if out, e := x.Update(p, j, old, now); out != nil || e != api.ErrShape {
			t.Errorf("P9: %+v: Update(%v, %d, %v, %v) = %x, %d", s, p, j, old, now, out, e)
		}
	}
	for _, count := range []int{0, s.M - 1, s.M + 1, s.M + 2, s.K + s.M + 1} {
		check(blank(count, 2*rows), shard, shard)
	}
	for _, b := range [][]byte{nil, {}, make([]byte, rows), make([]byte, 2*rows+1), make([]byte, 3*rows)} {
		check(blank(s.M, 2*rows), b, shard)
		check(blank(s.M, 2*rows), shard, b)
		check(blank(s.M, 2*rows), b, b)
		for i := range s.M {
			p := blank(s.M, 2*rows)
			p[i] = b
			check(p, shard, shard)
		}
	}
	lengths := []int{0, 49 * rows, 48*rows + 1}
	if rows > 1 {
		lengths = append(lengths, 1, rows-1, rows+1, 48*rows-1)
	}
	for _, length := range lengths {
		check(blank(s.M, length), make([]byte, length), make([]byte, length))
	}
	check(nil, nil, nil)
}

// Update wants no program, but may stand between calls that do.
func TestP9Kept(t *testing.T) {
	x := coder(t, examples[0].s, api.Settings{Block: 1, Cache: 2})
	p := whole()[3:]
	update(t, x, p, 0, []byte{1, 2}, []byte{3, 4})
	wantKept(t, x, 0, "Update")
	encode(t, x, whole()[:3])
	update(t, x, p, 0, []byte{1, 2}, []byte{3, 4})
	update(t, x, p, 2, []byte{1, 2}, []byte{3, 4})
	wantKept(t, x, 1, "Encode and Update")
	if out := reconstruct(t, x, whole(), []int{2}); !same(out, whole()) {
		t.Errorf("P2: behind Update Reconstruct = %x", out)
	}
	if q := encode(t, x, whole()[:3]); !same(q, p) {
		t.Errorf("P2: behind Update Encode = %x", q)
	}
	wantKept(t, x, 2, "Reconstruct of lost 2")
}

// One shard after the other from noughts to the data: the parity is the data's.
func TestP9Steps(t *testing.T) {
	for _, c := range examples {
		x := coder(t, c.s, plain)
		d := shardsOf(c.data)
		p := blank(c.s.M, len(d[0]))
		for _, j := range slices.Backward([]int{0, 1, 2, 3, 4}[:c.s.K]) {
			p = update(t, x, p, j, make([]byte, len(d[j])), d[j])
		}
		if !same(p, shardsOf(c.parity)) {
			t.Errorf("P9: %+v, step by step: %x, want %s", c.s, p, c.parity)
		}
	}
}
