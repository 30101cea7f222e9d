package field

import "testing"

// slowTimes multiplies polynomials and divides by the modulus, the longest first.
func slowTimes(n, a, b int) int {
	modulus := []int{0, 3, 7, 11, 19}[n]
	product := 0
	for i := range n {
		for j := range n {
			product ^= (a >> i & 1) * (b >> j & 1) << (i + j)
		}
	}
	for i := 2*n - 2; i >= n; i-- {
		if product>>i&1 == 1 {
			product ^= modulus << (i - n)
		}
	}
	return product
}

func TestTimes(t *testing.T) {
	for n := 1; n <= 4; n++ {
		f := Of(n)
		for a := range 1 << n {
			for b := range 1 << n {
				if got, want := f.Times(a, b), slowTimes(n, a, b); got != want {
					t.Errorf("2^%d: %d times %d = %d, want %d", n, a, b, got, want)
				}
			}
		}
	}
}

func TestOver(t *testing.T) {
	for n := 1; n <= 4; n++ {
		f := Of(n)
		for a := range 1 << n {
			for b := 1; b < 1<<n; b++ {
				if q := f.Over(a, b); q < 0 || q >= 1<<n || slowTimes(n, q, b) != a {
					t.Errorf("2^%d: %d over %d = %d", n, a, b, q)
				}
			}
			if q := f.Over(a, 0); q != 0 {
				t.Errorf("2^%d: %d over 0 = %d", n, a, q)
			}
		}
	}
}

func TestOnes(t *testing.T) {
	for _, c := range []struct{ n, e, ones int }{
		{1, 0, 0}, {1, 1, 1}, {2, 1, 2}, {2, 2, 3}, {2, 3, 3}, {3, 1, 3}, {3, 2, 4}, {4, 1, 4}, {4, 2, 5}, {4, 0, 0},
	} {
		if got := Of(c.n).Ones(c.e); got != c.ones {
			t.Errorf("2^%d: ones of %d = %d, want %d", c.n, c.e, got, c.ones)
		}
	}
}

func TestNoField(t *testing.T) {
	for _, n := range []int{-1 << 63, -1, 0, 5, 64, 1<<63 - 1} {
		f := Of(n)
		if f.Times(1, 1) != 0 || f.Over(1, 1) != 0 || f.Ones(1) != 0 {
			t.Errorf("of %d there is a field", n)
		}
	}
}
