package code

import (
	"math/bits"
	"slices"
	"testing"

	"shards/api"
)

func every() []api.Spec {
	var l []api.Spec
	for kind := range 4 {
		for n := range 8 {
			for k := range 10 {
				for m := range 10 {
					for good := range 2 {
						if s := (api.Spec{Kind: kind, K: k, M: m, N: n, Good: good}); Exists(s) {
							l = append(l, s)
						}
					}
				}
			}
		}
	}
	return l
}

func TestHowMany(t *testing.T) {
	// Cauchy of 2^n elements: one code for each K + M from 2 to the bound and each M below it, twice with Good.
	want := 2 * (1 + (1 + 2 + 3) + (1 + 2 + 3 + 4 + 5 + 6 + 7) + (1 + 2 + 3 + 4 + 5 + 6 + 7 + 8 + 9))
	want += 3 + 5 + 7 + 2 + 4 + 6 + 3 + 5 + 7
	if n := len(every()); n != want {
		t.Errorf("P3: %d codes, want %d", n, want)
	}
}

func TestParityShape(t *testing.T) {
	for _, s := range every() {
		sums := Parity(s)
		if len(sums) != s.M*Rows(s) {
			t.Errorf("P4: %+v has %d rows of parity", s, len(sums))
		}
		for i, sum := range sums {
			if sum == 0 || bits.Len64(sum) > s.K*Rows(s) {
				t.Errorf("P4: %+v: row %d of parity is the sum %b", s, i, sum)
			}
		}
	}
}

func TestNoCode(t *testing.T) {
	for _, s := range []api.Spec{{}, {Kind: 4, K: 1, M: 1, N: 1}, {Kind: api.EvenOdd, K: 1, M: 2}, {Kind: api.Star, K: 8, M: 3, N: 7}} {
		if Exists(s) || Rows(s) != 0 || Parity(s) != nil {
			t.Errorf("P3: there is %+v", s)
		}
	}
}

// rank: of a matrix of bits, a row a number.
func rank(m []uint64) int {
	m = slices.Clone(m)
	n := 0
	for c := range 64 {
		for i := n; i < len(m); i++ {
			if m[i]>>c&1 == 0 {
				continue
			}
			m[n], m[i] = m[i], m[n]
			for j := n + 1; j < len(m); j++ {
				if m[j]>>c&1 == 1 {
					m[j] ^= m[n]
				}
			}
			n++
			break
		}
	}
	return n
}

// rowsOfAll: the rows of data, then of parity, as sums of rows of data.
func rowsOfAll(s api.Spec) []uint64 {
	var all []uint64
	for i := range s.K * Rows(s) {
		all = append(all, 1<<i)
	}
	return append(all, Parity(s)...)
}

// All data comes back out of K shards if their rows have the rank of the data.
func TestAnyKOthers(t *testing.T) {
	for _, s := range every() {
		r := Rows(s)
		all := rowsOfAll(s)
		for left := range 1 << (s.K + s.M) {
			if bits.OnesCount(uint(left)) != s.K {
				continue
			}
			var m []uint64
			for i := range s.K + s.M {
				if left>>i&1 == 1 {
					m = append(m, all[i*r:i*r+r]...)
				}
			}
			if n := rank(m); n != s.K*r {
				t.Errorf("P4: %+v: out of the shards %b the data does not come back: rank %d", s, left, n)
			}
		}
	}
}

func TestGood(t *testing.T) {
	ones := func(sums []uint64) int {
		n := 0
		for _, sum := range sums {
			n += bits.OnesCount64(sum)
		}
		return n
	}
	for _, s := range every() {
		if s.Good == 0 {
			continue
		}
		good := Parity(s)
		for r := range s.N {
			want := uint64(0)
			for j := range s.K {
				want |= 1 << (j*s.N + r)
			}
			if good[r] != want {
				t.Errorf("P4: %+v: row %d of the first parity is the sum %b", s, r, good[r])
			}
		}
		s.Good = 0
		if a, b := ones(good), ones(Parity(s)); a > b {
			t.Errorf("P4: %+v: %d ones with Good, %d without", s, a, b)
		}
	}
}
