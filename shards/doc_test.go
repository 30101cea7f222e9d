package shards_test

import (
	"encoding/hex"
	"math/bits"
	"strings"

	"shards/api"
)

// What the document says of the codes, told in its own words and slowly: by bytes and bits, not by sums of rows.

// exists: P3's list of codes.
func exists(s api.Spec) bool {
	prime := s.N == 3 || s.N == 5 || s.N == 7
	small := s.K >= 1 && s.K <= 9 && s.M >= 1 && s.M <= 9 && s.K+s.M <= 10
	switch s.Kind {
	case api.Cauchy:
		return small && s.N >= 1 && s.N <= 4 && s.K+s.M <= 1<<s.N && (s.Good == 0 || s.Good == 1)
	case api.EvenOdd:
		return small && prime && s.K <= s.N && s.M == 2 && s.Good == 0
	case api.RDP:
		return small && prime && s.K <= s.N-1 && s.M == 2 && s.Good == 0
	case api.Star:
		return small && prime && s.K <= s.N && s.M == 3 && s.Good == 0
	}
	return false
}

func everyCode() []api.Spec {
	var l []api.Spec
	for kind := range 4 {
		for n := range 8 {
			for k := range 10 {
				for m := range 10 {
					for good := range 2 {
						if s := (api.Spec{Kind: kind, K: k, M: m, N: n, Good: good}); exists(s) {
							l = append(l, s)
						}
					}
				}
			}
		}
	}
	return l
}

func rowsOf(s api.Spec) int {
	if s.Kind == api.Cauchy {
		return s.N
	}
	return s.N - 1
}

// parity: P4.
func parity(s api.Spec, data [][]byte) [][]byte {
	size := len(data[0]) / rowsOf(s)
	p := make([][]byte, s.M)
	for i := range p {
		p[i] = make([]byte, len(data[0]))
	}
	for place := range size {
		if s.Kind == api.Cauchy {
			cauchyAt(s, data, p, size, place)
		} else {
			tableAt(s, data, p, size, place)
		}
	}
	return p
}

func tableAt(s api.Spec, data, p [][]byte, size, place int) {
	n := s.N
	table := make([][]byte, n)
	for r := range table {
		table[r] = make([]byte, n)
		for c := 0; c < s.K && r < n-1; c++ {
			table[r][c] = data[c][r*size+place]
		}
	}
	for r := range n - 1 {
		for c := range n {
			p[0][r*size+place] ^= table[r][c]
		}
		if s.Kind == api.RDP {
			table[r][n-1] = p[0][r*size+place]
		}
	}
	along, less := make([]byte, n), make([]byte, n)
	for r := range n {
		for c := range n {
			along[(r+c)%n] ^= table[r][c]
			less[(r+n-c)%n] ^= table[r][c]
		}
	}
	for r := range n - 1 {
		switch s.Kind {
		case api.RDP:
			p[1][r*size+place] = along[r]
		case api.EvenOdd, api.Star:
			p[1][r*size+place] = along[r] ^ along[n-1]
		}
		if s.Kind == api.Star {
			p[2][r*size+place] = less[r] ^ less[n-1]
		}
	}
}

func cauchyAt(s api.Spec, data, p [][]byte, size, place int) {
	matrix := elements(s)
	for bit := range 8 {
		for i := range s.M {
			sum := 0
			for j := range s.K {
				d := 0
				for r := range s.N {
					d |= int(data[j][r*size+place]>>bit&1) << r
				}
				sum ^= times(s.N, matrix[i][j], d)
			}
			for r := range s.N {
				p[i][r*size+place] |= byte(sum >> r & 1 << bit)
			}
		}
	}
}

func times(n, a, b int) int {
	product := 0
	for i := range n {
		product ^= (b >> i & 1) * (a << i)
	}
	for i := 2 * n; i >= n; i-- {
		product ^= (product >> i & 1) * (modulus(n) << (i - n))
	}
	return product
}

func modulus(n int) int { return []int{0, 0b11, 0b111, 0b1011, 0b10011}[n] }

func over(n, a, b int) int {
	for q := range 1 << n {
		if times(n, q, b) == a {
			return q
		}
	}
	return -1
}

func elements(s api.Spec) [][]int {
	matrix := make([][]int, s.M)
	for i := range matrix {
		for j := range s.K {
			matrix[i] = append(matrix[i], over(s.N, 1, i^(s.M+j)))
		}
	}
	if s.Good == 0 {
		return matrix
	}
	for j := range s.K {
		first := matrix[0][j]
		for i := range matrix {
			matrix[i][j] = over(s.N, matrix[i][j], first)
		}
	}
	for i := 1; i < s.M; i++ {
		var best []int
		fewest := 1 << 20
		for _, by := range append([]int{1}, matrix[i]...) {
			var row []int
			ones := 0
			for _, e := range matrix[i] {
				q := over(s.N, e, by)
				row = append(row, q)
				for c := range s.N {
					ones += bits.OnesCount(uint(times(s.N, q, 1<<c)))
				}
			}
			if ones < fewest {
				best, fewest = row, ones
			}
		}
		matrix[i] = best
	}
	return matrix
}

// shardsOf reads shards as the examples write them.
func shardsOf(text string) [][]byte {
	var l [][]byte
	for part := range strings.SplitSeq(text, "/") {
		b, err := hex.DecodeString(strings.ReplaceAll(part, " ", ""))
		if err != nil {
			panic(err)
		}
		l = append(l, b)
	}
	return l
}

type example struct {
	s            api.Spec
	data, parity string
}

var examples = []example{
	{api.Spec{Kind: api.EvenOdd, K: 3, M: 2, N: 3}, "01 26 / 4c 71 / 97 bc", "da eb / 5b 8c"},
	{api.Spec{Kind: api.EvenOdd, K: 5, M: 2, N: 5}, "01 26 4b 70 / 96 bb e0 05 / 2b 50 75 9a / c0 e5 0a 2f / 55 7a 9f c4", "29 52 4b 04 / 2b c0 df c0"},
	{api.Spec{Kind: api.RDP, K: 2, M: 2, N: 3}, "01 26 / 4c 71", "4d 57 / 56 6a"},
	{api.Spec{Kind: api.RDP, K: 4, M: 2, N: 5}, "01 26 4b 70 / 96 bb e0 05 / 2b 50 75 9a / c0 e5 0a 2f", "7c 28 d4 c0 / b9 4b 1b 00"},
	{api.Spec{Kind: api.Star, K: 3, M: 3, N: 3}, "01 26 / 4c 71 / 97 bc", "da eb / 5b 8c / 80 41"},
	{api.Spec{Kind: api.Star, K: 4, M: 3, N: 5}, "01 26 4b 70 / 96 bb e0 05 / 2b 50 75 9a / c0 e5 0a 2f", "7c 28 d4 c0 / 04 0a 4e 95 / 2c 90 42 72"},
	{api.Spec{Kind: api.Cauchy, K: 2, M: 2, N: 2}, "01 26 / 4c 71", "56 3c / 1b 6b"},
	{api.Spec{Kind: api.Cauchy, K: 3, M: 2, N: 3}, "01 26 4b / 71 96 bb / e1 06 2b", "c6 4d ba / a1 56 1b"},
	{api.Spec{Kind: api.Cauchy, K: 3, M: 2, N: 3, Good: 1}, "01 26 4b / 71 96 bb / e1 06 2b", "91 b6 db / 20 d0 10"},
	{api.Spec{Kind: api.Cauchy, K: 4, M: 3, N: 4}, "01 26 4b 70 / 96 bb e0 05 / 2b 50 75 9a / c0 e5 0a 2f", "d4 c9 30 af / 24 68 ef e3 / b2 9a a2 2e"},
	{api.Spec{Kind: api.Cauchy, K: 4, M: 3, N: 4, Good: 1}, "01 26 4b 70 / 96 bb e0 05 / 2b 50 75 9a / c0 e5 0a 2f", "7c 28 d4 c0 / 00 58 18 23 / 4e 2c 30 b4"},
}
