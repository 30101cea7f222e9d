package code

import (
	"math/bits"
	"testing"

	"shards/api"
)

// sumOf: the sum of those rows whose bits are set.
func sumOf(rows []uint64, set uint64) uint64 {
	sum := uint64(0)
	for i, row := range rows {
		sum ^= row * (set >> i & 1)
	}
	return sum
}

// Put into what is lost, as sums of given rows, what the given rows are as sums of rows of data: each must be its own row.
func TestLost(t *testing.T) {
	for _, s := range every() {
		r := Rows(s)
		all := rowsOfAll(s)
		for pattern := range 1 << (s.K + s.M) {
			sums := Lost(s, pattern)
			if bits.OnesCount(uint(pattern)) > s.M {
				if sums != nil {
					t.Errorf("P8: %+v without %b: Lost = %b", s, pattern, sums)
				}
				continue
			}
			var given, lost []uint64
			for i := range all {
				if pattern>>(i/r)&1 == 1 {
					lost = append(lost, all[i])
				} else if len(given) < s.K*r {
					given = append(given, all[i])
				}
			}
			if len(sums) != len(lost) {
				t.Errorf("P8: %+v without %b: Lost = %b", s, pattern, sums)
				continue
			}
			for i, sum := range sums {
				if bits.Len64(sum) > len(given) || sumOf(given, sum) != lost[i] {
					t.Errorf("P8: %+v without %b: row %d is the sum %b", s, pattern, i, sum)
				}
			}
		}
	}
}

func TestTurned(t *testing.T) {
	for _, s := range every() {
		r := Rows(s)
		parity := Parity(s)
		for j := range s.K {
			sums := Turned(s, j)
			if len(sums) != s.M*r {
				t.Errorf("P9: %+v: Turned(%d) = %b", s, j, sums)
				continue
			}
			for i, sum := range sums {
				want := []int{i}
				for c := range r {
					if parity[i]>>(j*r+c)&1 == 1 {
						want = append(want, s.M*r+c, s.M*r+r+c)
					}
				}
				for _, bit := range want {
					sum ^= 1 << bit
				}
				if sum != 0 {
					t.Errorf("P9: %+v: Turned(%d): row %d is the sum %b", s, j, i, sums[i])
				}
			}
		}
		for _, j := range []int{-1 << 63, -1, s.K, s.K + s.M, 1<<63 - 1} {
			if sums := Turned(s, j); sums != nil {
				t.Errorf("P9: %+v: Turned(%d) = %b", s, j, sums)
			}
		}
	}
}

func TestLostOfNoCode(t *testing.T) {
	for _, s := range []api.Spec{{}, {Kind: 4, K: 1, M: 1, N: 1}, {Kind: api.Star, K: 8, M: 3, N: 7}} {
		if sums := Lost(s, 1); sums != nil {
			t.Errorf("P3: Lost of %+v = %b", s, sums)
		}
		if sums := Turned(s, 0); sums != nil {
			t.Errorf("P3: Turned of %+v = %b", s, sums)
		}
	}
	if sums := Lost(api.Spec{K: 1, M: 1, N: 1}, -1); sums != nil {
		t.Errorf("P8: Lost of all = %b", sums)
	}
}
