// Package field: the fields of 2^N elements, polynomials over bits modulo x^N + x + 1.
package field

import "shards/api"

// Field is one of the fields; an element's number has bit i set if it has x^i.
type Field struct {
	degree  int
	modulus int
}

// Of gives the field of 2^n elements. Where there is none, every product is 0.
func Of(n int) Field {
	if n < 1 || n > api.MaxField {
		return Field{}
	}
	// x^1 + x + 1 would be 1, which is no modulus: for n = 1 it is x + 1.
	if n == 1 {
		return Field{degree: 1, modulus: 3}
	}
	return Field{degree: n, modulus: 1<<uint(n) | 3}
}

// Times is a times b.
func (f Field) Times(a, b int) int {
	product := 0
	for i := range f.degree {
		if b>>uint(i)&1 == 1 {
			product ^= a
		}
		a = f.timesX(a)
	}
	return product
}

func (f Field) timesX(a int) int {
	a = a << 1
	if a>>uint(f.degree)&1 == 1 {
		a ^= f.modulus
	}
	return a
}

// Over is a over b; 0, if b is 0.
func (f Field) Over(a, b int) int {
	if b == 0 {
		return 0
	}
	// At most 16 elements: a search needs no table.
	for quotient := range 1 << uint(f.degree) {
		product := f.Times(quotient, b)
		if product == a {
			return quotient
		}
	}
	return 0
}

// Ones tells how many ones the bit matrix of e has.
func (f Field) Ones(e int) int {
	ones := 0
	for range f.degree {
		for i := range f.degree {
			ones += e >> uint(i) & 1
		}
		e = f.timesX(e)
	}
	return ones
}
