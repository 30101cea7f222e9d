package shards_test

import (
	"math"
	"math/bits"
	"math/rand"
	"slices"
	"testing"

	"shards/api"
	"shards/shards"
)

// all: shards of data with rows of so many bytes, and their parity behind them.
func all(s api.Spec, size int) [][]byte {
	d := data(s, size)
	return append(d, parity(s, d)...)
}

// numbers: the shards of a pattern, in some order.
func numbers(pattern int) []int {
	var lost []int
	for i := range 10 {
		if pattern>>i&1 == 1 {
			lost = append(lost, i)
		}
	}
	rand.New(rand.NewSource(int64(pattern))).Shuffle(len(lost), func(i, j int) { lost[i], lost[j] = lost[j], lost[i] })
	return lost
}

// without: the same shards with something else in place of those that are lost.
func without(l [][]byte, lost []int) [][]byte {
	l = slices.Clone(l)
	for _, i := range lost {
		l[i] = [][]byte{nil, {}, {7}, make([]byte, len(l[i])), make([]byte, 1000)}[(i+len(lost))%5]
	}
	return l
}

func reconstruct(t *testing.T, x *shards.Coder, l [][]byte, lost []int) [][]byte {
	t.Helper()
	out, e := x.Reconstruct(l, lost)
	if e != api.OK {
		t.Fatalf("P8: Reconstruct(%x, %v) answers %d", l, lost, e)
	}
	return out
}

func TestP8EveryPattern(t *testing.T) {
	for _, s := range everyCode() {
		x := coder(t, s, api.Settings{Level: s.K % 4, Scratch: s.M, Block: 2, Cache: 4})
		whole := all(s, 3)
		for pattern := range 1 << (s.K + s.M) {
			lost := numbers(pattern)
			if len(lost) > s.M {
				if out, e := x.Reconstruct(whole, lost); out != nil || e != api.ErrLost {
					t.Errorf("P8: %+v without %v: %x, %d", s, lost, out, e)
				}
				continue
			}
			if out := reconstruct(t, x, without(whole, lost), lost); !same(out, whole) {
				t.Errorf("P8: %+v without %v: %x, want %x", s, lost, out, whole)
			}
		}
	}
}

func TestP8Sizes(t *testing.T) {
	for _, c := range examples {
		x := coder(t, c.s, api.Settings{Block: 7, Cache: 4})
		for size := 1; size <= api.MaxBytes; size++ {
			whole := all(c.s, size)
			for _, lost := range [][]int{nil, {0}, {c.s.K}, {1, 0}, {c.s.K + 1, 0}} {
				if out := reconstruct(t, x, without(whole, lost), lost); !same(out, whole) {
					t.Errorf("P8: %+v with rows of %d, without %v: %x, want %x", c.s, size, lost, out, whole)
				}
			}
		}
	}
}

// The parity need not be the data's: what is lost hangs on the first K shards that are left alone, and the others stay as they are.
func TestP8FirstLeft(t *testing.T) {
	for _, s := range everyCode() {
		x := coder(t, s, plain)
		whole := all(s, 2)
		for pattern := range 1 << (s.K + s.M) {
			lost := numbers(pattern)
			if len(lost) > s.M {
				continue
			}
			in, want := without(whole, lost), slices.Clone(whole)
			left := 0
			for i := range whole {
				if pattern>>i&1 == 1 {
					continue
				}
				if left++; left > s.K {
					in[i] = slices.Repeat([]byte{byte(i), 0xc3}, len(whole[i])/2)
					want[i] = in[i]
				}
			}
			if out := reconstruct(t, x, in, lost); !same(out, want) {
				t.Errorf("P8: %+v without %v, the others wrong: %x, want %x", s, lost, out, want)
			}
		}
	}
}

func TestP8NothingLost(t *testing.T) {
	for _, s := range everyCode() {
		x := coder(t, s, plain)
		l := all(s, 4)
		l[s.K][0] ^= 1
		for _, lost := range [][]int{nil, {}} {
			if out := reconstruct(t, x, l, lost); !same(out, l) {
				t.Errorf("P8: %+v without nothing: %x, want %x", s, out, l)
			}
		}
	}
}

// Of errors the first that applies is told: of the pattern, of how many, of the shards.
func TestP8Errors(t *testing.T) {
	for _, s := range everyCode() {
		x := coder(t, s, api.Settings{Level: 3, Scratch: 16, Block: 64, Cache: 4})
		n := s.K + s.M
		good, bad := all(s, 2), blank(n+1, 1)
		for _, i := range []int{math.MinInt, -1, n, n + 1, 32, 63, 64, 1 << 32, 1 << 62, math.MaxInt} {
			for _, l := range [][][]byte{good, bad, nil} {
				wantReconstruct(t, x, api.ErrPattern, l, i)
				wantReconstruct(t, x, api.ErrPattern, l, 0, i)
				wantReconstruct(t, x, api.ErrPattern, l, append(numbers(1<<n-1), i)...)
			}
		}
		for i := range n {
			for _, l := range [][][]byte{good, bad, nil} {
				wantReconstruct(t, x, api.ErrPattern, l, i, i)
				wantReconstruct(t, x, api.ErrPattern, l, append(numbers(1<<n-1), i)...)
			}
		}
		for _, l := range [][][]byte{good, bad, nil} {
			wantReconstruct(t, x, api.ErrLost, l, numbers(1<<n-1)...)
			wantReconstruct(t, x, api.ErrLost, l, numbers(1<<(s.M+1)-1)...)
		}
		wantKept(t, x, 0, "errors")
	}
}

func TestP8Shapes(t *testing.T) {
	for _, s := range everyCode() {
		x := coder(t, s, api.Settings{Block: 3, Cache: 4})
		n, rows := s.K+s.M, rowsOf(s)
		for pattern := range 1 << n {
			if bits.OnesCount(uint(pattern)) > s.M {
				continue
			}
			lost := numbers(pattern)
			wrong := [][][]byte{nil, {}, blank(s.K, rows), blank(n-1, rows), blank(n+1, rows), make([][]byte, n), blank(n, 0), blank(n, 49*rows), blank(n, rows*48+1)}
			if rows > 1 {
				wrong = append(wrong, blank(n, 1), blank(n, rows-1), blank(n, rows+1))
			}
			// K of 1 with all else lost leaves nothing that could be of another length.
			for i := 0; i < n && n-len(lost) > 1; i++ {
				if pattern>>i&1 == 0 {
					l := blank(n, 2*rows)
					l[i] = [][]byte{nil, make([]byte, rows), make([]byte, 2*rows+1), make([]byte, 3*rows)}[(i+pattern)%4]
					wrong = append(wrong, l)
				}
			}
			for _, l := range wrong {
				wantReconstruct(t, x, api.ErrShape, misfit(l, lost), lost...)
			}
		}
		wantKept(t, x, 0, "errors")
	}
}

// misfit: as without, of lists that may be too short; in place of what is lost stands something that would fit.
func misfit(l [][]byte, lost []int) [][]byte {
	l = slices.Clone(l)
	for _, i := range lost {
		if i < len(l) {
			l[i] = make([]byte, 12)
		}
	}
	return l
}
