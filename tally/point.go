package tally

// mostFar is how far the numbers of a point may be from 0: the squares of two such, and of what lies between them, are whole numbers that a float holds exactly.
const mostFar = 1 << 20

// Far is the square of how far a point is from the origin.
func Far(up, down int) int {
	return Apart([2]int{up, down}, [2]int{})
}

// Apart is the square of how far two points are from each other.
func Apart(a, b [2]int) int {
	if !near(a) || !near(b) {
		return 0
	}
	return square(point(a) - point(b))
}

// near tells whether both numbers of a point lie within the bounds.
func near(a [2]int) bool {
	for _, n := range a {
		if n < -mostFar || n > mostFar {
			return false
		}
	}
	return true
}

// point is the complex number of two whole ones.
func point(a [2]int) complex128 {
	return complex(float64(a[0]), float64(a[1]))
}

// square is the square of how far a complex number is from 0: its product with its own mirror image, which has nothing imaginary.
func square(z complex128) int {
	return int(real(z * complex(real(z), -imag(z))))
}
