package tests

import (
	"fmt"
	"math"
	"math/big"
	"slices"
	"strconv"
	"testing"

	"loop.example/g01121/impl"
)

// slowInverse adds digit to digit, as the text of n to the base has them.
func slowInverse(n, base int64) *big.Rat {
	sum, place := new(big.Rat), big.NewRat(1, 1)
	text := strconv.FormatInt(n, int(base))
	for i := len(text) - 1; i >= 0; i-- {
		digit, _ := strconv.ParseInt(text[i:i+1], int(base), 64)
		place.Mul(place, big.NewRat(1, base))
		sum.Add(sum, new(big.Rat).Mul(place, big.NewRat(digit, 1)))
	}
	return sum
}

// someInverted returns numbers with few and with many digits to a base, those
// around its powers among them.
func someInverted(base int64, d *draws) []int64 {
	numbers := append(valuesFrom(0, 1, 100), valuesFrom(999990, 1, 11)...)
	for power := base; power <= 1000000; power *= base {
		numbers = append(numbers, power-1, power, min(1000000, power+1), min(1000000, power*(base-1)))
	}
	for range 100 {
		numbers = append(numbers, d.below(1000001))
	}
	return numbers
}

func TestInverseExamples(t *testing.T) {
	inverse, ok := impl.RadicalInverse(6, 2)
	expect(t, "RadicalInverse 6 2", inverse, ok, part(3, 8))
	inverse, ok = impl.RadicalInverse(1000000, 10)
	expect(t, "RadicalInverse 1000000 10", inverse, ok, part(1, 10000000))
	inverse, ok = impl.RadicalInverse(999999, 10)
	expect(t, "RadicalInverse 999999 10", inverse, ok, part(999999, 1000000))
	inverse, ok = impl.RadicalInverse(35, 36)
	expect(t, "RadicalInverse 35 36", inverse, ok, part(35, 36))
	point, ok := impl.HaltonPoint(6, []int64{3, 2, 3})
	expectRats(t, "HaltonPoint 6", point, ok, []*big.Rat{big.NewRat(2, 9), big.NewRat(3, 8), big.NewRat(2, 9)})
}

// No inverse is refused: the parts of all of them are small enough.
func TestRadicalInverses(t *testing.T) {
	d := draws(1021)
	for base := int64(2); base <= 36; base++ {
		for _, n := range someInverted(base, &d) {
			inverse, ok := impl.RadicalInverse(n, base)
			what := fmt.Sprint("RadicalInverse ", n, base)
			expectRat(t, what, inverse, ok, slowInverse(n, base))
			if !isFraction(inverse) {
				t.Errorf("%s: got %v", what, inverse)
			}
		}
	}
}

// Promise 11: the first inverses, as many as a power of the base, are all
// multiples of 1 divided by this power, each one once.
func TestInversesAreEven(t *testing.T) {
	for base := int64(2); base <= 36; base++ {
		for power := base; power <= 2000; power *= base {
			var places []int64
			for n := range power {
				inverse, _ := impl.RadicalInverse(n, base)
				places = append(places, power/inverse.Den*inverse.Num)
			}
			slices.Sort(places)
			if !slices.Equal(places, valuesFrom(0, 1, int(power))) {
				t.Errorf("the first %d inverses to the base %d are not even", power, base)
			}
		}
	}
}

func TestHaltonPoints(t *testing.T) {
	d := draws(1022)
	for count := 1; count <= 4; count++ {
		for i := range 200 {
			n := d.below(d.below(1000000) + 2)
			if i < 2 {
				n = int64(i) * 1000000
			}
			var bases []int64
			var want []*big.Rat
			for range count {
				bases = append(bases, 2+d.below(35))
			}
			for _, base := range bases {
				want = append(want, slowInverse(n, base))
			}
			point, ok := impl.HaltonPoint(n, bases)
			expectRats(t, fmt.Sprint("HaltonPoint ", n, bases), point, ok, want)
		}
	}
}

func TestWrongInverses(t *testing.T) {
	for _, n := range []int64{-1, 1000001, 1000002, math.MinInt64, math.MaxInt64} {
		for _, base := range []int64{2, 10, 36} {
			expectNoInverse(t, n, base)
		}
	}
	for _, base := range []int64{-2, -1, 0, 1, 37, 38, 64, math.MinInt64, math.MaxInt64} {
		for _, n := range []int64{0, 1, 6, 1000000} {
			expectNoInverse(t, n, base)
		}
	}
	for _, n := range []int64{0, 6, 1000000} {
		for _, bases := range [][]int64{nil, {}, repeated[int64](2, 0), {2, 3, 5, 7, 11}, repeated[int64](2, 5), repeated[int64](36, 64)} {
			point, ok := impl.HaltonPoint(n, bases)
			expectNoFractions(t, fmt.Sprint("HaltonPoint ", n, bases), point, ok)
		}
	}
}

// expectNoInverse has a wrong argument also between right ones.
func expectNoInverse(t *testing.T, n, base int64) {
	t.Helper()
	inverse, ok := impl.RadicalInverse(n, base)
	expectFail(t, fmt.Sprint("RadicalInverse ", n, base), inverse, ok)
	for _, bases := range [][]int64{{base}, {base, 2}, {2, base}, {2, 3, 5, base}, {base, 2, 3, 5}, {2, base, 3}} {
		point, ok := impl.HaltonPoint(n, bases)
		expectNoFractions(t, fmt.Sprint("HaltonPoint ", n, bases), point, ok)
	}
}

func TestGridExamples(t *testing.T) {
	points, ok := impl.GridPoints(5, 2)
	expectLists(t, "GridPoints", points, ok, [][]int64{{0, 0}, {1, 2}, {2, 4}, {3, 1}, {4, 3}})
	figure, ok := impl.GridFigure(5, 2)
	expect(t, "GridFigure", figure, ok, 5)
	figure, ok = impl.GridFigure(400, 0)
	expect(t, "GridFigure", figure, ok, 1)
	figure, ok = impl.GridFigure(2, 1)
	expect(t, "GridFigure", figure, ok, 2)
}

func TestGridPoints(t *testing.T) {
	d := draws(1023)
	for n := int64(1); n <= 400; n++ {
		for _, a := range []int64{0, n - 1, n / 2, d.below(n), d.below(n)} {
			var want [][]int64
			second := int64(0)
			for i := range n {
				want = append(want, []int64{i, second})
				if second += a; second >= n {
					second -= n
				}
			}
			points, ok := impl.GridPoints(n, a)
			expectLists(t, fmt.Sprint("GridPoints ", n, a), points, ok, want)
		}
	}
}

// slowFigure tries all numbers up to n, of which n itself is one.
func slowFigure(n, a int64) int64 {
	least := n * n
	for h := -n; h <= n; h++ {
		for k := -n; k <= n; k++ {
			if squares := h*h + k*k; squares > 0 && squares < least && (h+a*k)%n == 0 {
				least = squares
			}
		}
	}
	return least
}

// figureByReduction is Gauss' reduction of the lattice of all h and k.
func figureByReduction(n, a int64) int64 {
	return gaussSquares([2]int64{-a, 1}, [2]int64{n, 0})
}

// Promise 11: figures are those of the shortest h and k.
func TestGridFigures(t *testing.T) {
	for n := int64(1); n <= 400; n++ {
		for a := range n {
			figure, ok := impl.GridFigure(n, a)
			what := fmt.Sprint("GridFigure ", n, a)
			expect(t, what, figure, ok, figureByReduction(n, a))
			if n <= 30 {
				expect(t, what, figure, ok, slowFigure(n, a))
			}
		}
	}
}

// Promise 11: no grid has a greater figure than the best one, and none with a
// lesser a has as great a one.
func TestBestGrids(t *testing.T) {
	for n := int64(1); n <= 400; n++ {
		want, most := int64(0), int64(0)
		for a := range n {
			if figure := figureByReduction(n, a); figure > most {
				want, most = a, figure
			}
		}
		a, figure, ok := impl.BestGrid(n)
		expect(t, fmt.Sprint("BestGrid ", n), a, ok, want)
		expect(t, fmt.Sprint("the figure of BestGrid ", n), figure, ok, most)
	}
}

func TestWrongGrids(t *testing.T) {
	for _, n := range []int64{0, -1, -5, 401, 402, math.MinInt64, math.MaxInt64} {
		for _, a := range []int64{0, 1, -1, n, n - 1} {
			expectNoGrid(t, n, a)
		}
		a, figure, ok := impl.BestGrid(n)
		expectFail(t, fmt.Sprint("BestGrid ", n), a, ok)
		expectFail(t, fmt.Sprint("the figure of BestGrid ", n), figure, ok)
	}
	for _, n := range []int64{1, 2, 5, 399, 400} {
		for _, a := range []int64{-1, -n, n, n + 1, math.MinInt64, math.MaxInt64} {
			expectNoGrid(t, n, a)
		}
	}
}

func expectNoGrid(t *testing.T, n, a int64) {
	t.Helper()
	points, ok := impl.GridPoints(n, a)
	expectNoLists(t, fmt.Sprint("GridPoints ", n, a), points, ok)
	figure, ok := impl.GridFigure(n, a)
	expectFail(t, fmt.Sprint("GridFigure ", n, a), figure, ok)
}
