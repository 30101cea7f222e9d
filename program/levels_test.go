package program

import (
	"math/rand"
	"reflect"
	"slices"
	"testing"

	"shards/api"
)

// sumsOf: the given registers that each register that comes out is the sum of.
func sumsOf(p Program) []uint64 {
	var words [api.MaxIn + api.MaxOut + api.MaxScratch]uint64
	for i := range p.Given {
		words[i] = 1 << i
	}
	for _, op := range p.Ops {
		switch op.Kind {
		case api.Zero:
			words[op.To] = 0
		case api.Copy:
			words[op.To] = words[op.From]
		case api.Xor:
			words[op.To] ^= words[op.From]
		}
	}
	return slices.Clone(words[p.Given : p.Given+p.Out])
}

func TestDifferences(t *testing.T) {
	// The fifth is cheapest; then the second, from it; the first is no cheaper from another; the third is the second again; the fourth is none.
	got := Differences(4, []uint64{0b1100, 0b0011, 0b0011, 0, 0b0001, 0b1111})
	want := Program{Given: 4, Out: 6, Ops: []Op{
		{api.Zero, 7, 0},
		{api.Copy, 8, 0},
		{api.Copy, 4, 2}, {api.Xor, 4, 3},
		{api.Copy, 5, 0}, {api.Xor, 5, 1},
		{api.Copy, 6, 5},
		{api.Copy, 9, 4}, {api.Xor, 9, 0}, {api.Xor, 9, 1},
	}}
	if !reflect.DeepEqual(got, want) {
		t.Errorf("P12: Differences = %+v, want %+v", got, want)
	}
}

func TestPairs(t *testing.T) {
	sums := []uint64{0b00111, 0b01111, 0b11011, 0b10000, 0, 0b00111}
	all := []Op{
		{api.Copy, 11, 0}, {api.Xor, 11, 1},
		{api.Copy, 12, 2}, {api.Xor, 12, 11},
		{api.Copy, 13, 3}, {api.Xor, 13, 4},
	}
	rows := func(ops ...Op) []Op { return ops }
	for besides, want := range [][]Op{
		rows(Op{1, 5, 0}, Op{2, 5, 1}, Op{2, 5, 2}, Op{1, 6, 0}, Op{2, 6, 1}, Op{2, 6, 2}, Op{2, 6, 3}, Op{1, 7, 0}, Op{2, 7, 1}, Op{2, 7, 3}, Op{2, 7, 4}, Op{1, 8, 4}, Op{0, 9, 0}, Op{1, 10, 0}, Op{2, 10, 1}, Op{2, 10, 2}),
		append(all[:2:2], rows(Op{1, 5, 2}, Op{2, 5, 11}, Op{1, 6, 2}, Op{2, 6, 3}, Op{2, 6, 11}, Op{1, 7, 3}, Op{2, 7, 4}, Op{2, 7, 11}, Op{1, 8, 4}, Op{0, 9, 0}, Op{1, 10, 2}, Op{2, 10, 11})...),
		append(all[:4:4], rows(Op{1, 5, 12}, Op{1, 6, 3}, Op{2, 6, 12}, Op{1, 7, 3}, Op{2, 7, 4}, Op{2, 7, 11}, Op{1, 8, 4}, Op{0, 9, 0}, Op{1, 10, 12})...),
	} {
		got := Pairs(5, sums, besides)
		if p := (Program{Given: 5, Out: 6, Besides: besides, Ops: want}); !reflect.DeepEqual(got, p) {
			t.Errorf("P12: Pairs of %d besides = %+v, want %+v", besides, got, p)
		}
	}
	// Two sums are enough for a pair.
	if p := Pairs(3, []uint64{0b011, 0b111}, 1); p.Besides != 1 || p.Xors() != 2 {
		t.Errorf("P12: Pairs of two sums = %+v", p)
	}
	// No pair is in two sums any more: a further register would spare nothing.
	two := Pairs(5, sums, 2)
	for besides := 3; besides <= api.MaxScratch; besides++ {
		if got := Pairs(5, sums, besides); !reflect.DeepEqual(got, two) {
			t.Errorf("P12: Pairs of %d besides = %+v, want %+v", besides, got, two)
		}
	}
}

func TestBest(t *testing.T) {
	for _, c := range []struct {
		what    string
		sums    []uint64
		besides int
		want    Program
	}{
		{"differences have fewer", []uint64{0b111111, 0b111110, 0b111100}, 1, Differences(6, []uint64{0b111111, 0b111110, 0b111100})},
		{"pairs have fewer", []uint64{0b000111, 0b011011, 0b100011}, 1, Pairs(6, []uint64{0b000111, 0b011011, 0b100011}, 1)},
		{"no register besides", []uint64{0b000111, 0b011011, 0b100011}, 0, Differences(6, []uint64{0b000111, 0b011011, 0b100011})},
		{"as many", []uint64{0b000011, 0b000111}, 1, Differences(6, []uint64{0b000011, 0b000111})},
	} {
		if got := Best(6, c.sums, c.besides); !reflect.DeepEqual(got, c.want) {
			t.Errorf("P12: Best, %s: %+v, want %+v", c.what, got, c.want)
		}
	}
	differences := Differences(6, []uint64{0b000111, 0b011011, 0b100011})
	pairs := Pairs(6, []uint64{0b000111, 0b011011, 0b100011}, 1)
	if differences.Xors() <= pairs.Xors() {
		t.Errorf("P12: %d exclusive ors by differences, %d by pairs", differences.Xors(), pairs.Xors())
	}
}

// random: sums, some of them few and many, equal and none.
func random(r *rand.Rand, given, out int) []uint64 {
	sums := make([]uint64, out)
	for i := range sums {
		sums[i] = r.Uint64()
		switch r.Intn(6) {
		case 0:
			sums[i] &= r.Uint64() & r.Uint64()
		case 1:
			sums[i] |= r.Uint64() | r.Uint64()
		case 2:
			sums[i] = sums[r.Intn(i+1)]
		case 3:
			sums[i] = sums[r.Intn(i+1)] ^ 1<<r.Intn(48)
		case 4:
			sums[i] = []uint64{0, 1<<48 - 1}[r.Intn(2)]
		}
		sums[i] &= 1<<given - 1
	}
	return sums
}

// good: a program makes the sums, and can be written, with at most so many registers besides and exclusive ors.
func good(t *testing.T, what string, p Program, sums []uint64, besides, most int) {
	t.Helper()
	if !p.sound() || p.Text() == "" {
		t.Fatalf("P12: %s is no program: %+v", what, p)
	}
	if got := sumsOf(p); !slices.Equal(got, sums) {
		t.Errorf("P12: %s makes %b, want %b", what, got, sums)
	}
	if p.Besides > besides || p.Xors() > most {
		t.Errorf("P12: %s of %b has %d besides and %d exclusive ors, at most %d and %d", what, sums, p.Besides, p.Xors(), besides, most)
	}
}

func TestAnySums(t *testing.T) {
	r := rand.New(rand.NewSource(12))
	for range 300 {
		given, out := r.Intn(api.MaxIn+1), r.Intn(api.MaxOut+1)
		sums := random(r, given, out)
		handed := slices.Clone(sums)
		plain := Plain(given, sums).Xors()
		differences := Differences(given, sums)
		good(t, "Differences", differences, sums, 0, plain)
		less, least := plain, differences.Xors()
		for besides := range api.MaxScratch + 1 {
			pairs := Pairs(given, sums, besides)
			good(t, "Pairs", pairs, sums, besides, less)
			less = pairs.Xors()
			best := Best(given, sums, besides)
			good(t, "Best", best, sums, besides, min(less, least))
			least = best.Xors()
			if again := Best(given, sums, besides); !reflect.DeepEqual(again, best) {
				t.Errorf("P10: Best of %b is %+v and %+v", sums, best, again)
			}
		}
		if !slices.Equal(sums, handed) {
			t.Fatalf("P2: sums that were handed in are %b, were %b", sums, handed)
		}
	}
}

// All ones: the longest programs that there are.
func TestMostSums(t *testing.T) {
	sums := slices.Repeat([]uint64{1<<api.MaxIn - 1}, api.MaxOut)
	most := (api.MaxIn - 1) * api.MaxOut
	good(t, "Plain", Plain(api.MaxIn, sums), sums, 0, most)
	good(t, "Differences", Differences(api.MaxIn, sums), sums, 0, api.MaxIn-1)
	good(t, "Pairs", Pairs(api.MaxIn, sums, api.MaxScratch), sums, api.MaxScratch, most-api.MaxScratch*(api.MaxOut-1))
	good(t, "Best", Best(api.MaxIn, sums, api.MaxScratch), sums, api.MaxScratch, api.MaxIn-1)
}

// leastTree: the fewest exclusive ors by differences, found by trying all orders and ways; made has a bit for each sum that is made.
func leastTree(sums []uint64, made int) int {
	least := -1
	for i, sum := range sums {
		if made>>i&1 == 1 {
			continue
		}
		cost := max(ones(sum)-1, 0)
		for j, from := range sums {
			if made>>j&1 == 1 {
				cost = min(cost, ones(sum^from))
			}
		}
		cost += leastTree(sums, made|1<<i)
		if least < 0 || cost < least {
			least = cost
		}
	}
	return max(least, 0)
}

func TestDifferencesLeast(t *testing.T) {
	r := rand.New(rand.NewSource(13))
	for range 500 {
		sums := random(r, 1+r.Intn(12), r.Intn(6))
		good(t, "Differences", Differences(12, sums), sums, 0, leastTree(sums, 0))
	}
}

// What is beyond the bounds gives no program, and no call panics.
func TestSumsBeyondBounds(t *testing.T) {
	three := []uint64{7, 7, 7}
	for _, besides := range []int{-1 << 63, -1, 17, 64, 1<<63 - 1} {
		allowed := min(max(besides, 0), api.MaxScratch)
		good(t, "Pairs", Pairs(3, three, besides), three, allowed, 6)
		good(t, "Best", Best(3, three, besides), three, allowed, 6)
		most := slices.Repeat([]uint64{1<<api.MaxIn - 1}, api.MaxOut)
		good(t, "Pairs", Pairs(api.MaxIn, most, besides), most, allowed, (api.MaxIn-1)*api.MaxOut)
	}
	for _, sums := range [][]uint64{nil, three, slices.Repeat(three, 30), {1 << 63}, {1<<64 - 1, 1<<64 - 1}} {
		for _, given := range []int{-1 << 63, -1, 49, 64, 65, 1<<63 - 1} {
			for _, p := range []Program{Differences(given, sums), Pairs(given, sums, 16), Best(given, sums, 16)} {
				if text := p.Text(); text != "" {
					t.Errorf("P11: of %b out of %d registers there is a program: %q", sums, given, text)
				}
			}
		}
		// A sum of registers that are not given is none; only that the calls end is asked for.
		for given := range 3 {
			Differences(given, sums)
			Pairs(given, sums, 16)
			Best(given, sums, 16)
		}
	}
}
