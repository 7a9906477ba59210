package tally_test

import (
	"math"
	"testing"

	"confluence/tally"
)

const far = 1 << 20

// near is numbers within the bounds, the bounds among them.
var near = []int{-far, -far + 1, -65537, -1000, -4, -3, -1, 0, 1, 2, 5, 12, 999, 65536, far - 1, far}

// beyond is numbers outside the bounds.
var beyond = []int{-far - 1, far + 1, -2 * far, 2 * far, 1 << 31, -1 << 32, 1<<53 + 1, math.MinInt, math.MinInt + 1, math.MaxInt}

// P5.2
func TestFar(t *testing.T) {
	for _, n := range near {
		for _, m := range near {
			if got := tally.Far(n, m); got != n*n+m*m {
				t.Error(n, m, got)
			}
		}
		for _, m := range beyond {
			if a, b := tally.Far(n, m), tally.Far(m, n); a != 0 || b != 0 {
				t.Error(n, m, a, b)
			}
		}
	}
	for _, n := range beyond {
		for _, m := range beyond {
			if got := tally.Far(n, m); got != 0 {
				t.Error(n, m, got)
			}
		}
	}
	if tally.Far(-3, 4) != 25 || tally.Far(0, 0) != 0 || tally.Far(far, -far) != 1<<41 {
		t.Error(tally.Far(-3, 4), tally.Far(0, 0), tally.Far(far, -far))
	}
}

// P5.2
func TestApart(t *testing.T) {
	for _, n := range near {
		for _, m := range near {
			for _, o := range near {
				for _, p := range near {
					a, b := [2]int{n, m}, [2]int{o, p}
					if got := tally.Apart(a, b); got != (n-o)*(n-o)+(m-p)*(m-p) {
						t.Error(a, b, got)
					}
				}
			}
		}
	}
	if got := tally.Apart([2]int{1, 1}, [2]int{4, 5}); got != 25 {
		t.Error(got)
	}
	if got := tally.Apart([2]int{-far, -far}, [2]int{far, far}); got != 1<<43 {
		t.Error(got)
	}
}

// P5.2: one number of the four outside the bounds is enough, though the two points are near each other.
func TestApartBeyond(t *testing.T) {
	for _, n := range beyond {
		for place := range 4 {
			for _, m := range near {
				l := [4]int{m, m, m, m}
				l[place] = n
				if got := tally.Apart([2]int{l[0], l[1]}, [2]int{l[2], l[3]}); got != 0 {
					t.Error(l, got)
				}
			}
		}
		if got := tally.Apart([2]int{n, 1}, [2]int{n, 3}); got != 0 {
			t.Error(n, got)
		}
		if got := tally.Apart([2]int{1, n}, [2]int{3, n}); got != 0 {
			t.Error(n, got)
		}
	}
}

// P5.3
func TestFarOfProduct(t *testing.T) {
	for a := -40; a <= 40; a += 3 {
		for b := -40; b <= 40; b += 7 {
			for c := -30000; c <= 25000; c += 1111 {
				for d := -12000; d <= 13000; d += 1777 {
					up, down := a*c-b*d, a*d+b*c
					if up < -far || up > far || down < -far || down > far {
						continue
					}
					if got := tally.Far(up, down); got != tally.Far(a, b)*tally.Far(c, d) {
						t.Fatal(a, b, c, d, got)
					}
				}
			}
		}
	}
	if tally.Far(1024, 0)*tally.Far(0, 1024) != tally.Far(0, far) || tally.Far(724, 724)*tally.Far(724, -724) != tally.Far(2*724*724, 0) {
		t.Error("at the bounds")
	}
}
