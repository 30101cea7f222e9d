package shards_test

import (
	"bytes"
	"math"
	"math/rand"
	"slices"
	"testing"

	"shards/api"
	"shards/shards"
)

var plain = api.Settings{Block: 8, Cache: 1}

func coder(t *testing.T, s api.Spec, set api.Settings) *shards.Coder {
	t.Helper()
	x, e := shards.New(s, set)
	if e != api.OK || x == nil {
		t.Fatalf("P3: New(%+v, %+v) = %v, %d", s, set, x, e)
	}
	return x
}

func encode(t *testing.T, x *shards.Coder, data [][]byte) [][]byte {
	t.Helper()
	p, e := x.Encode(data)
	if e != api.OK {
		t.Fatalf("P5: Encode(%x) answers %d", data, e)
	}
	return p
}

func same(a, b [][]byte) bool { return slices.EqualFunc(a, b, bytes.Equal) }

// data: K shards with rows of so many bytes, the same ones each time.
func data(s api.Spec, size int) [][]byte {
	r := rand.New(rand.NewSource(int64(size)))
	l := make([][]byte, s.K)
	for i := range l {
		l[i] = make([]byte, rowsOf(s)*size)
		r.Read(l[i])
	}
	return l
}

func blank(count, length int) [][]byte {
	l := make([][]byte, count)
	for i := range l {
		l[i] = make([]byte, length)
	}
	return l
}

func TestP3Codes(t *testing.T) {
	check := func(s api.Spec) {
		x, e := shards.New(s, plain)
		want := api.OK
		if !exists(s) {
			want = api.ErrSpec
		}
		if e != want || (x == nil) != (e != api.OK) {
			t.Errorf("P3: New(%+v) = %v, %d, want %d", s, x, e, want)
		}
		if e == api.OK && x.Rows() != rowsOf(s) {
			t.Errorf("P3: Rows of %+v = %d", s, x.Rows())
		}
	}
	for kind := -1; kind <= 5; kind++ {
		for k := -1; k <= 11; k++ {
			for m := -1; m <= 11; m++ {
				for n := -1; n <= 13; n++ {
					for good := -1; good <= 2; good++ {
						check(api.Spec{Kind: kind, K: k, M: m, N: n, Good: good})
					}
				}
			}
		}
	}
	edges := []int{math.MinInt, math.MinInt + 9, -1, 0, 1, 2, 3, 1 << 62, math.MaxInt - 1, math.MaxInt}
	for _, kind := range edges {
		for _, k := range edges {
			for _, m := range edges {
				for _, n := range edges {
					for _, good := range edges {
						check(api.Spec{Kind: kind, K: k, M: m, N: n, Good: good})
					}
				}
			}
		}
	}
}

func TestP3Settings(t *testing.T) {
	s := examples[0].s
	for _, c := range []struct {
		set api.Settings
		e   api.Errno
	}{
		{api.Settings{Block: 1}, api.OK},
		{api.Settings{Level: 3, Scratch: 16, Block: 64, Cache: 4}, api.OK},
		{api.Settings{Level: 4, Block: 1}, api.ErrSet},
		{api.Settings{Level: -1, Block: 1}, api.ErrSet},
		{api.Settings{Scratch: 17, Block: 1}, api.ErrSet},
		{api.Settings{Scratch: -1, Block: 1}, api.ErrSet},
		{api.Settings{Block: 0}, api.ErrSet},
		{api.Settings{Block: 65}, api.ErrSet},
		{api.Settings{Block: -1}, api.ErrSet},
		{api.Settings{Block: 1, Cache: 5}, api.ErrSet},
		{api.Settings{Block: 1, Cache: -1}, api.ErrSet},
		{api.Settings{Level: math.MaxInt, Scratch: math.MinInt, Block: math.MinInt, Cache: math.MaxInt}, api.ErrSet},
	} {
		x, e := shards.New(s, c.set)
		if e != c.e || (x == nil) != (e != api.OK) {
			t.Errorf("P3: New(%+v) = %v, %d, want %d", c.set, x, e, c.e)
		}
		if x, e := shards.New(api.Spec{Kind: 9}, c.set); x != nil || e != api.ErrSpec {
			t.Errorf("P1: New of no code with %+v = %v, %d, want %d", c.set, x, e, api.ErrSpec)
		}
	}
}

func TestP4Examples(t *testing.T) {
	for _, c := range examples {
		if p := encode(t, coder(t, c.s, plain), shardsOf(c.data)); !same(p, shardsOf(c.parity)) {
			t.Errorf("P4: %+v of %s = %x, want %s", c.s, c.data, p, c.parity)
		}
	}
}

func TestP4EveryCode(t *testing.T) {
	for _, s := range everyCode() {
		x := coder(t, s, plain)
		for _, size := range []int{1, 2, 7, 8, 9, 47, 48} {
			d := data(s, size)
			if p, want := encode(t, x, d), parity(s, d); !same(p, want) {
				t.Errorf("P4: %+v of %x = %x, want %x", s, d, p, want)
			}
		}
	}
}

func TestP5Shapes(t *testing.T) {
	for _, s := range everyCode() {
		x := coder(t, s, plain)
		rows := rowsOf(s)
		wrong := [][][]byte{nil, {}, blank(s.K-1, rows), blank(s.K+1, rows), blank(s.K+s.M, rows), make([][]byte, s.K), blank(s.K, 0), blank(s.K, 49*rows), blank(1000, rows)}
		if rows > 1 {
			wrong = append(wrong, blank(s.K, 1), blank(s.K, rows+1), blank(s.K, 48*rows-1), blank(s.K, 48*rows+1))
		}
		for i := range s.K {
			if s.K > 1 {
				for _, other := range [][]byte{nil, make([]byte, rows), make([]byte, 3*rows), make([]byte, 2*rows+1)} {
					d := blank(s.K, 2*rows)
					d[i] = other
					wrong = append(wrong, d)
				}
			}
		}
		for _, d := range wrong {
			if p, e := x.Encode(d); p != nil || e != api.ErrShape {
				t.Errorf("P5: %+v: Encode(%v) = %v, %d", s, d, p, e)
			}
		}
		for size := 1; size <= 48; size++ {
			p := encode(t, x, blank(s.K, size*rows))
			if !same(p, blank(s.M, size*rows)) {
				t.Errorf("P5: %+v: of noughts, rows of %d: %x", s, size, p)
			}
		}
	}
}

func TestP6Verify(t *testing.T) {
	for _, s := range everyCode() {
		x := coder(t, s, plain)
		for _, size := range []int{1, 3, 48} {
			d := data(s, size)
			all := append(slices.Clone(d), parity(s, d)...)
			if y, e := x.Verify(all); !y || e != api.OK {
				t.Errorf("P6: %+v: Verify = %v, %d", s, y, e)
			}
			for i := range all {
				for _, at := range []int{0, len(all[i]) / 2, len(all[i]) - 1} {
					for _, bit := range []byte{0x01, 0x80} {
						all[i][at] ^= bit
						if y, e := x.Verify(all); y || e != api.OK {
							t.Errorf("P6: %+v: Verify with byte %d of shard %d turned = %v, %d", s, at, i, y, e)
						}
						all[i][at] ^= bit
					}
				}
			}
		}
	}
}

func TestP6Shapes(t *testing.T) {
	for _, s := range everyCode() {
		x := coder(t, s, plain)
		rows := rowsOf(s)
		n := s.K + s.M
		wrong := [][][]byte{nil, {}, blank(s.K, rows), blank(n-1, rows), blank(n+1, rows), make([][]byte, n), blank(n, 0), blank(n, 49*rows)}
		if rows > 1 {
			wrong = append(wrong, blank(n, 1), blank(n, rows+1), blank(n, 48*rows+1))
		}
		for i := range n {
			for _, other := range [][]byte{nil, make([]byte, rows), make([]byte, 3*rows)} {
				d := blank(n, 2*rows)
				d[i] = other
				wrong = append(wrong, d)
			}
		}
		for _, d := range wrong {
			if y, e := x.Verify(d); y || e != api.ErrShape {
				t.Errorf("P6: %+v: Verify(%v) = %v, %d", s, d, y, e)
			}
		}
		if y, e := x.Verify(blank(n, 48*rows)); !y || e != api.OK {
			t.Errorf("P6: %+v: Verify of noughts = %v, %d", s, y, e)
		}
	}
}
