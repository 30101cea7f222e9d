package shards_test

import (
	"slices"
	"testing"

	"shards/api"
	"shards/shards"
)

func wantKept(t *testing.T, x *shards.Coder, want int, behind string) {
	t.Helper()
	if n := x.Kept(); n != want {
		t.Errorf("P7: Kept behind %s = %d, want %d", behind, n, want)
	}
}

func wantProgram(t *testing.T, x *shards.Coder, want api.Errno, lost ...int) {
	t.Helper()
	if _, e := x.Program(lost); e != want {
		t.Errorf("P7: Program(%v) answers %d, want %d", lost, e, want)
	}
}

func wantReconstruct(t *testing.T, x *shards.Coder, want api.Errno, all [][]byte, lost ...int) {
	t.Helper()
	if _, e := x.Reconstruct(all, lost); e != want {
		t.Errorf("P7: Reconstruct(%v) answers %d, want %d", lost, e, want)
	}
}

// whole: the data and the parity of the first example, EvenOdd with three shards of data and two of parity.
func whole() [][]byte {
	return append(shardsOf(examples[0].data), shardsOf(examples[0].parity)...)
}

func TestP7Example(t *testing.T) {
	for cache := 0; cache <= api.MaxCache; cache++ {
		for level := range 4 {
			keepExample(t, api.Settings{Level: level, Scratch: 3, Block: 1, Cache: cache})
		}
	}
}

func keepExample(t *testing.T, set api.Settings) {
	t.Helper()
	cache := set.Cache
	x := coder(t, examples[0].s, set)
	wantKept(t, x, 0, "nothing")
	encode(t, x, whole()[:3])
	wantKept(t, x, min(cache, 1), "Encode")
	x.Verify(whole())
	wantKept(t, x, min(cache, 1), "Verify")
	wantProgram(t, x, api.OK, 0)
	wantKept(t, x, min(cache, 2), "Program of lost 0")
	wantReconstruct(t, x, api.OK, whole(), 1)
	wantKept(t, x, min(cache, 3), "Reconstruct of lost 1")
	wantProgram(t, x, api.OK, 0, 1)
	wantProgram(t, x, api.OK, 4, 2)
	wantProgram(t, x, api.OK, 3)
	wantKept(t, x, min(cache, 6), "Program of three more")
	if p := encode(t, x, whole()[:3]); !same(p, whole()[3:]) {
		t.Errorf("P2: behind other patterns Encode = %x", p)
	}
	wantKept(t, x, min(cache, 6), "Encode again")
}

func TestP7Verify(t *testing.T) {
	x := coder(t, examples[0].s, api.Settings{Block: 1, Cache: 4})
	all := whole()
	all[4][0] ^= 1
	if y, e := x.Verify(all); y || e != api.OK {
		t.Fatalf("P6: Verify = %v, %d", y, e)
	}
	wantKept(t, x, 1, "Verify that tells false")
	wantProgram(t, x, api.OK)
	wantKept(t, x, 1, "Program of nothing lost")
}

func TestP7NothingLost(t *testing.T) {
	x := coder(t, examples[0].s, api.Settings{Block: 1, Cache: 4})
	wantReconstruct(t, x, api.OK, whole())
	wantKept(t, x, 0, "Reconstruct of nothing lost")
	wantProgram(t, x, api.OK)
	wantKept(t, x, 1, "Program of nothing lost")
	if p := encode(t, x, whole()[:3]); !same(p, whole()[3:]) {
		t.Errorf("P2: behind Program of nothing lost Encode = %x", p)
	}
	wantKept(t, x, 1, "Encode")
}

// A pattern is a set: the order in which its numbers stand is nothing.
func TestP7Sets(t *testing.T) {
	x := coder(t, examples[4].s, api.Settings{Block: 1, Cache: 4})
	wantProgram(t, x, api.OK, 0, 5, 2)
	wantProgram(t, x, api.OK, 5, 2, 0)
	wantReconstruct(t, x, api.OK, blank(6, 2), 2, 0, 5)
	wantKept(t, x, 1, "the same three lost")
	wantProgram(t, x, api.OK, 0, 5)
	wantKept(t, x, 2, "two of them lost")
}

func TestP7Errors(t *testing.T) {
	x := coder(t, examples[0].s, api.Settings{Block: 1, Cache: 4})
	for _, d := range [][][]byte{nil, blank(3, 1), blank(2, 2), blank(3, 98)} {
		x.Encode(d)
		x.Verify(d)
	}
	for _, lost := range [][]int{{0, 5}, {-1}, {1, 1}, {0, 1, 2, 0}, {0, 1, 2, 9}, {1 << 62}, {-1 << 63}} {
		wantProgram(t, x, api.ErrPattern, lost...)
		wantReconstruct(t, x, api.ErrPattern, whole(), lost...)
		wantReconstruct(t, x, api.ErrPattern, nil, lost...)
	}
	for _, lost := range [][]int{{0, 1, 2}, {4, 3, 2, 1, 0}} {
		wantProgram(t, x, api.ErrLost, lost...)
		wantReconstruct(t, x, api.ErrLost, whole(), lost...)
		wantReconstruct(t, x, api.ErrLost, nil, lost...)
	}
	for _, all := range [][][]byte{nil, blank(4, 2), blank(6, 2), blank(5, 1), blank(5, 98), blank(5, 0), slices.Concat(blank(1, 4), blank(4, 2)), slices.Concat(blank(4, 4), blank(1, 2))} {
		wantReconstruct(t, x, api.ErrShape, all, 1)
		wantReconstruct(t, x, api.ErrShape, all)
	}
	wantKept(t, x, 0, "errors")
	// Those that are lost may be anything.
	all := whole()
	all[0], all[3] = nil, make([]byte, 999)
	wantReconstruct(t, x, api.OK, all, 3, 0)
	wantKept(t, x, 1, "Reconstruct of lost 3, 0")
}

func TestP7CodersApart(t *testing.T) {
	x := coder(t, examples[0].s, api.Settings{Block: 1, Cache: 2})
	y := coder(t, examples[0].s, api.Settings{Block: 1, Cache: 2})
	encode(t, x, whole()[:3])
	wantKept(t, x, 1, "Encode")
	wantKept(t, y, 0, "Encode of another coder")
	z := *x
	wantProgram(t, x, api.OK, 0)
	wantKept(t, &z, 1, "Program of the coder that it was copied from")
}
