package tests

import (
	"testing"

	"loop.example/g00644/impl"
)

// A sum's byte and its carry are the sum; a difference's byte and what is borrowed are the difference.
func TestPromise3Sums(t *testing.T) {
	for a := range 256 {
		for b := range 256 {
			for carry := range 2 {
				v, f, code := impl.Add8(a, b, carry)
				if v < 0 || v > 255 || v+256*(f&impl.FlC) != a+b+carry || code != 0 {
					t.Fatal("Add8", a, b, carry, "gives", v, f, code)
				}
				v, f, code = impl.Sub8(a, b, carry)
				if v < 0 || v > 255 || v-256*(f&impl.FlC) != a-b-carry || code != 0 {
					t.Fatal("Sub8", a, b, carry, "gives", v, f, code)
				}
			}
		}
	}
}

// What was added and is taken away again with the same carry is what it was.
func TestPromise3SumsBack(t *testing.T) {
	for a := range 256 {
		for b := range 256 {
			for carry := range 2 {
				sum, _, _ := impl.Add8(a, b, carry)
				if v, _, _ := impl.Sub8(sum, b, carry); v != a {
					t.Fatal("Sub8 of Add8", a, b, carry, "gives", v)
				}
			}
		}
	}
}

// turnedTimes turns a byte about so many times; each turn takes the flags of the one ahead of it.
func turnedTimes(op, times, a, f int) (int, int) {
	for range times {
		a, f, _ = impl.Turn8(op, a, f)
	}
	return a, f
}

func TestPromise3Turns(t *testing.T) {
	// Round eight turns come back; through the carry it takes nine.
	for op, times := range [4]int{8, 8, 9, 9} {
		for a := range 256 {
			for f := range 2 {
				v, flags := turnedTimes(op, times, a, f)
				if v != a || op > 1 && flags&impl.FlC != f {
					t.Error("turned about by", op, a, f, "gives", v, flags)
				}
			}
		}
	}
}

func TestPromise3TurnsThereAndBack(t *testing.T) {
	for _, op := range []int{0, 1, 2, 3} {
		for a := range 256 {
			for f := range 2 {
				v, flags, _ := impl.Turn8(op, a, f)
				back, flags, _ := impl.Turn8(op^1, v, flags)
				if back != a || op > 1 && flags&impl.FlC != f {
					t.Error("turned by", op, "and back", a, f, "gives", back, flags)
				}
			}
		}
	}
}

// digitsOf writes a number below 100 as two decimal digits of a byte.
func digitsOf(n int) int {
	return n/10*16 + n%10
}

func TestPromise3DecimalSums(t *testing.T) {
	for a := range 100 {
		for b := range 100 {
			for carry := range 2 {
				v, f, _ := impl.Add8(digitsOf(a), digitsOf(b), carry)
				v, f, code := impl.Daa8(v, f)
				n := a + b + carry
				if v != digitsOf(n%100) || f&impl.FlC != n/100 || f&impl.FlN != 0 || code != 0 {
					t.Fatal(a, "and", b, "and", carry, "gives", v, f, code)
				}
			}
		}
	}
}

func TestPromise3DecimalDifferences(t *testing.T) {
	for a := range 100 {
		for b := range 100 {
			for carry := range 2 {
				v, f, _ := impl.Sub8(digitsOf(a), digitsOf(b), carry)
				v, f, code := impl.Daa8(v, f)
				n, borrowed := a-b-carry, 0
				if n < 0 {
					n, borrowed = n+100, 1
				}
				if v != digitsOf(n) || f&impl.FlC != borrowed || f&impl.FlN == 0 || code != 0 {
					t.Fatal(a, "less", b, "less", carry, "gives", v, f, code)
				}
			}
		}
	}
}
