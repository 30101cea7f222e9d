package shards_test

import (
	"encoding/binary"
	"math"
	"math/bits"
	"slices"
	"testing"

	"shards/api"
	"shards/shards"
)

func programOf(t *testing.T, x *shards.Coder, lost []int) string {
	t.Helper()
	text, e := x.Program(lost)
	if e != api.OK {
		t.Fatalf("P10: Program(%v) answers %d", lost, e)
	}
	return text
}

func count(t *testing.T, text string) []int {
	t.Helper()
	l, e := shards.Count(text)
	if e != api.OK || len(l) != 4 {
		t.Fatalf("P11: Count(%q) = %v, %d", text, l, e)
	}
	return l
}

func run(t *testing.T, text string, in [][]byte) [][]byte {
	t.Helper()
	out, e := shards.Run(text, in)
	if e != api.OK {
		t.Fatalf("P11: Run(%q, %x) answers %d", text, in, e)
	}
	return out
}

// cut: the rows of shards.
func cut(s api.Spec, l [][]byte) [][]byte {
	var rows [][]byte
	for _, shard := range l {
		rows = slices.AppendSeq(rows, slices.Chunk(shard, len(shard)/rowsOf(s)))
	}
	return rows
}

// between: the shards that a program of a pattern runs from, and those that it runs to.
func between(s api.Spec, whole [][]byte, pattern int) (from, to [][]byte) {
	for i, shard := range whole {
		if pattern>>i&1 == 1 {
			to = append(to, shard)
		} else if len(from) < s.K {
			from = append(from, shard)
		}
	}
	if pattern == 0 {
		to = whole[s.K:]
	}
	return from, to
}

// sumsOf: the given registers that each register that comes out is the sum of. Each given one has a bit of its own, so that they can be told from what comes out.
func sumsOf(t *testing.T, text string) []uint64 {
	t.Helper()
	in := make([][]byte, count(t, text)[0])
	for i := range in {
		in[i] = binary.LittleEndian.AppendUint64(nil, 1<<i)
	}
	var sums []uint64
	for _, b := range run(t, text, in) {
		sums = append(sums, binary.LittleEndian.Uint64(b))
	}
	return sums
}

// plainCount: of each sum of how many it is, less one, all together.
func plainCount(sums []uint64) int {
	n := 0
	for _, sum := range sums {
		n += max(bits.OnesCount64(sum)-1, 0)
	}
	return n
}

func TestP10EveryPattern(t *testing.T) {
	for _, s := range everyCode() {
		x := coder(t, s, api.Settings{Scratch: s.K, Block: 3, Cache: s.M % 5})
		whole := all(s, 48)
		for pattern := range 1 << (s.K + s.M) {
			lost := numbers(pattern)
			if len(lost) > s.M {
				if text, e := x.Program(lost); text != "" || e != api.ErrLost {
					t.Errorf("P10: %+v without %v: %q, %d", s, lost, text, e)
				}
				continue
			}
			text := programOf(t, x, lost)
			from, to := between(s, whole, pattern)
			in := cut(s, from)
			if out := run(t, text, in); !same(out, cut(s, to)) {
				t.Errorf("P10: the program of %+v without %v gives %x, want %x", s, lost, out, to)
			}
			want := []int{len(in), len(to) * rowsOf(s), 0, plainCount(sumsOf(t, text))}
			if l := count(t, text); !slices.Equal(l, want) {
				t.Errorf("P10: the program of %+v without %v counts %v, want %v", s, lost, l, want)
			}
		}
	}
}

func TestP10Levels(t *testing.T) {
	for _, s := range everyCode() {
		whole := all(s, 48)
		for level := range 4 {
			for _, scratch := range []int{0, 1, 16} {
				x := coder(t, s, api.Settings{Level: level, Scratch: scratch, Block: 64, Cache: 4})
				for _, pattern := range []int{0, 1, 1 << s.K, 1<<s.M - 1, (1<<s.M - 1) << s.K, 1 | 1<<(s.K+s.M-1)} {
					lost := numbers(pattern)
					if len(lost) > s.M {
						continue
					}
					text := programOf(t, x, lost)
					from, to := between(s, whole, pattern)
					in := cut(s, from)
					if out := run(t, text, in); !same(out, cut(s, to)) {
						t.Errorf("P10: the program of %+v without %v at level %d gives %x, want %x", s, lost, level, out, to)
					}
					l, most := count(t, text), plainCount(sumsOf(t, text))
					if l[0] != len(in) || l[1] != len(to)*rowsOf(s) || l[3] > most {
						t.Errorf("P10: the program of %+v without %v at level %d counts %v, the plain count is %d", s, lost, level, l, most)
					}
				}
			}
		}
	}
}

// The count that the document's tables have: EvenOdd with K 3 and N 3 has two rows of three cells, and two rows of two diagonals, of two cells each.
func TestP10PlainCount(t *testing.T) {
	for _, c := range []struct {
		s    api.Spec
		lost []int
		want []int
	}{
		{api.Spec{Kind: api.EvenOdd, K: 3, M: 2, N: 3}, nil, []int{6, 4, 0, 10}},
		{api.Spec{Kind: api.EvenOdd, K: 3, M: 2, N: 3}, []int{3}, []int{6, 2, 0, 4}},
		{api.Spec{Kind: api.EvenOdd, K: 3, M: 2, N: 3}, []int{4}, []int{6, 2, 0, 6}},
		{api.Spec{Kind: api.EvenOdd, K: 3, M: 2, N: 3}, []int{1}, []int{6, 2, 0, 4}},
		{api.Spec{Kind: api.EvenOdd, K: 1, M: 2, N: 7}, []int{0}, []int{6, 6, 0, 0}},
		{api.Spec{Kind: api.RDP, K: 2, M: 2, N: 3}, nil, []int{4, 4, 0, 5}},
		{api.Spec{Kind: api.Cauchy, K: 1, M: 1, N: 1}, []int{0}, []int{1, 1, 0, 0}},
		{api.Spec{Kind: api.Cauchy, K: 1, M: 9, N: 4, Good: 1}, nil, []int{4, 36, 0, 0}},
	} {
		x := coder(t, c.s, api.Settings{Scratch: 16, Block: 1})
		if l := count(t, programOf(t, x, c.lost)); !slices.Equal(l, c.want) {
			t.Errorf("P10: the program of %+v without %v counts %v, want %v", c.s, c.lost, l, c.want)
		}
	}
}

func TestP10Least(t *testing.T) {
	s := api.Spec{Kind: api.Cauchy, K: 1, M: 1, N: 1}
	for _, lost := range [][]int{nil, {}, {0}, {1}} {
		for _, cache := range []int{0, 1} {
			x := coder(t, s, api.Settings{Block: 1, Cache: cache})
			for range 2 {
				if text := programOf(t, x, lost); text != "XP\x01\x01\x00\x01\x00\x01\x01\x00" {
					t.Errorf("P10: the program of %+v without %v = %q", s, lost, text)
				}
			}
		}
	}
}

// Neither the order of what is lost nor the calls ahead nor what is kept change a program.
func TestP10SameProgram(t *testing.T) {
	for _, s := range everyCode() {
		for level := range 4 {
			set := api.Settings{Level: level, Scratch: level * s.K % 17, Block: 8, Cache: s.K % 5}
			x, y := coder(t, s, set), coder(t, s, set)
			encode(t, y, data(s, 1))
			for _, pattern := range []int{1 << s.K, 0, 1<<s.M - 1, 1, (1<<s.M - 1) << s.K, 1 << s.K} {
				lost := numbers(pattern)
				text := programOf(t, x, lost)
				slices.Reverse(lost)
				reconstruct(t, y, all(s, 1), lost)
				for range 2 {
					if again := programOf(t, y, lost); again != text {
						t.Errorf("P10: the program of %+v without %v at level %d is %q and %q", s, lost, level, text, again)
					}
				}
			}
		}
	}
}

// Of errors the first that applies is told: of the pattern, of how many.
func TestP10Errors(t *testing.T) {
	check := func(s api.Spec, x *shards.Coder, want api.Errno, lost ...int) {
		t.Helper()
		if text, e := x.Program(lost); text != "" || e != want {
			t.Errorf("P10: %+v: Program(%v) = %q, %d, want %d", s, lost, text, e, want)
		}
	}
	for _, s := range everyCode() {
		x := coder(t, s, api.Settings{Level: 3, Scratch: 16, Block: 64, Cache: 4})
		n := s.K + s.M
		every := numbers(1<<n - 1)
		for _, i := range []int{math.MinInt, -1, n, n + 1, 32, 63, 64, 1 << 32, 1 << 62, math.MaxInt} {
			check(s, x, api.ErrPattern, i)
			check(s, x, api.ErrPattern, 0, i)
			check(s, x, api.ErrPattern, append(every, i)...)
		}
		for i := range n {
			check(s, x, api.ErrPattern, i, i)
			check(s, x, api.ErrPattern, append(every, i)...)
		}
		check(s, x, api.ErrLost, every...)
		check(s, x, api.ErrLost, numbers(1<<(s.M+1)-1)...)
		wantKept(t, x, 0, "errors")
	}
}
