package shards_test

import (
	"math/bits"
	"slices"
	"testing"

	"shards/api"
)

// share: whether two of the sums have two given registers in common.
func share(sums []uint64) bool {
	for i, a := range sums {
		for _, b := range sums[:i] {
			if bits.OnesCount64(a&b) > 1 {
				return true
			}
		}
	}
	return false
}

// asked: the program of a pattern at a level, for the sums that it has to make: registers besides and exclusive ors.
func asked(t *testing.T, s api.Spec, level, scratch, pattern int, sums []uint64) (besides, xors int) {
	t.Helper()
	x := coder(t, s, api.Settings{Level: level, Scratch: scratch, Block: 8, Cache: pattern % 5})
	text := programOf(t, x, numbers(pattern))
	if got := sumsOf(t, text); !slices.Equal(got, sums) {
		t.Errorf("P10: %+v without %b, level %d, scratch %d makes %b, want %b", s, pattern, level, scratch, got, sums)
	}
	l := count(t, text)
	most := plainCount(sums)
	if l[3] > most {
		t.Errorf("P10: %+v without %b, level %d, scratch %d: %d exclusive ors, plain %d", s, pattern, level, scratch, l[3], most)
	}
	if level > 1 && scratch > 0 && share(sums) && l[3] >= most {
		t.Errorf("P12: %+v without %b, level %d, scratch %d: %d exclusive ors, and two sums have a pair in common", s, pattern, level, scratch, l[3])
	}
	return l[2], l[3]
}

// levels: all that P12 asks for of a pattern, at some numbers of registers besides, from less to more.
func levels(t *testing.T, s api.Spec, pattern int, scratches ...int) []uint64 {
	t.Helper()
	x := coder(t, s, plain)
	sums := sumsOf(t, programOf(t, x, numbers(pattern)))
	last := plainCount(sums)
	for _, scratch := range scratches {
		none, one := asked(t, s, 1, scratch, pattern, sums)
		some, two := asked(t, s, 2, scratch, pattern, sums)
		best, three := asked(t, s, 3, scratch, pattern, sums)
		if none != 0 || some > scratch || best > scratch {
			t.Errorf("P12: %+v without %b, scratch %d: at levels 1 to 3 there are %d, %d, %d registers besides", s, pattern, scratch, none, some, best)
		}
		if three > one || three > two || three > last {
			t.Errorf("P12: %+v without %b, scratch %d: exclusive ors of levels 1 to 3 are %d, %d, %d, with a lesser scratch %d", s, pattern, scratch, one, two, three, last)
		}
		last = three
	}
	return sums
}

func TestP12EveryPattern(t *testing.T) {
	with, without := 0, 0
	for i, s := range everyCode() {
		for pattern := range 1 << (s.K + s.M) {
			if bits.OnesCount(uint(pattern)) > s.M {
				continue
			}
			// All numbers of registers besides for every pattern would take too long: one, and one that turns.
			sums := levels(t, s, pattern, 1, 1+(i+pattern)%16)
			if share(sums) {
				with++
			} else {
				without++
			}
		}
	}
	if with < 100 || without < 100 {
		t.Errorf("P12: of the patterns %d have two sums with a pair in common, %d have not", with, without)
	}
}

func TestP12EveryScratch(t *testing.T) {
	var every []int
	for scratch := range api.MaxScratch + 1 {
		every = append(every, scratch)
	}
	for _, s := range everyCode() {
		for _, pattern := range []int{0, 1, 1 << s.K, 1<<s.M - 1, 1 | 1<<(s.K+s.M-1)} {
			if bits.OnesCount(uint(pattern)) <= s.M {
				levels(t, s, pattern, every...)
			}
		}
	}
}

// Where no two sums have a pair in common there may be nothing to spare: here each row that comes out is a given one.
func TestP12Nothing(t *testing.T) {
	for _, s := range []api.Spec{{Kind: api.Cauchy, K: 1, M: 1, N: 1}, {Kind: api.Cauchy, K: 1, M: 9, N: 4, Good: 1}, {Kind: api.EvenOdd, K: 1, M: 2, N: 3}} {
		for level := 1; level < 4; level++ {
			for _, scratch := range []int{0, 1, 16} {
				x := coder(t, s, api.Settings{Level: level, Scratch: scratch, Block: 8})
				if l := count(t, programOf(t, x, []int{s.K})); l[3] != 0 {
					t.Errorf("P12: %+v, level %d, scratch %d: %v", s, level, scratch, l)
				}
			}
		}
	}
}

// RDP with K 2 and N 3: the rows of the first parity are 0 + 2 and 1 + 3, those of the second 0 + 1 + 3 and 1 + 2 (given rows 0 to 3), so that the third is the second plus 0: plain 5 exclusive ors, by this difference or by this pair 4.
func TestP12Example(t *testing.T) {
	s := api.Spec{Kind: api.RDP, K: 2, M: 2, N: 3}
	for _, c := range []struct {
		level, scratch int
		want           []int
	}{
		{0, 0, []int{4, 4, 0, 5}},
		{0, 16, []int{4, 4, 0, 5}},
		{1, 0, []int{4, 4, 0, 4}},
		{1, 16, []int{4, 4, 0, 4}},
		{2, 0, []int{4, 4, 0, 5}},
		{2, 1, []int{4, 4, 1, 4}},
		{2, 16, []int{4, 4, 1, 4}},
		{3, 0, []int{4, 4, 0, 4}},
		{3, 1, []int{4, 4, 0, 4}},
		{3, 16, []int{4, 4, 0, 4}},
	} {
		x := coder(t, s, api.Settings{Level: c.level, Scratch: c.scratch, Block: 1})
		text := programOf(t, x, nil)
		if sums := sumsOf(t, text); !slices.Equal(sums, []uint64{0b0101, 0b1010, 0b1011, 0b0110}) {
			t.Errorf("P12: level %d, scratch %d makes %b", c.level, c.scratch, sums)
		}
		if l := count(t, text); !slices.Equal(l, c.want) {
			t.Errorf("P12: level %d, scratch %d counts %v, want %v", c.level, c.scratch, l, c.want)
		}
	}
}

// A program that is not the plain one runs as the plain one does, over every length of a row.
func TestP12Runs(t *testing.T) {
	for _, c := range examples {
		for size := 1; size <= api.MaxBytes; size++ {
			whole := all(c.s, size)
			for level := 1; level < 4; level++ {
				x := coder(t, c.s, api.Settings{Level: level, Scratch: size % 17, Block: 1 + size%7, Cache: size % 3})
				for _, lost := range [][]int{nil, {0}, {1, 0}, {c.s.K, 0}} {
					from, to := between(c.s, whole, patternOf(lost))
					if out := run(t, programOf(t, x, lost), cut(c.s, from)); !same(out, cut(c.s, to)) {
						t.Errorf("P12: %+v without %v, level %d gives %x, want %x", c.s, lost, level, out, to)
					}
					if out := reconstruct(t, x, without(whole, lost), lost); !same(out, whole) {
						t.Errorf("P8: %+v without %v, level %d gives %x, want %x", c.s, lost, level, out, whole)
					}
				}
				if p := encode(t, x, whole[:c.s.K]); !same(p, whole[c.s.K:]) {
					t.Errorf("P5: %+v, level %d gives %x, want %x", c.s, level, p, whole[c.s.K:])
				}
			}
		}
	}
}

func patternOf(lost []int) int {
	pattern := 0
	for _, i := range lost {
		pattern |= 1 << i
	}
	return pattern
}
