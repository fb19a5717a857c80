package tests

import (
	"fmt"
	"math"
	"slices"
	"testing"

	"loop.example/g01121/impl"
)

func squaresOf(list []int64) int64 {
	sum := int64(0)
	for _, n := range list {
		sum += n * n
	}
	return sum
}

// isPoint reports whether the list is a point, as the document tells it.
func isPoint(c impl.Congruence, list []int64) bool {
	for i := 1; i < len(list); i++ {
		if (list[i]-c.Factor*list[i-1])%c.Modulus != 0 {
			return false
		}
	}
	return squaresOf(list) > 0
}

// isWave reports whether the list is a wave, as the document tells it.
func isWave(c impl.Congruence, list []int64) bool {
	sum, power := int64(0), int64(1)
	for _, n := range list {
		sum, power = (sum+power*n)%c.Modulus, power*c.Factor%c.Modulus
	}
	return sum == 0 && squaresOf(list) > 0
}

// startsPositive reports whether the first number that is not 0 is positive.
func startsPositive(list []int64) bool {
	for _, n := range list {
		if n != 0 {
			return n > 0
		}
	}
	return false
}

// boxOf returns all lists that may be the shortest one, which is not longer
// than the list with the modulus alone.
func boxOf(modulus int64, dim int) [][]int64 {
	lists := [][]int64{nil}
	for range dim {
		var longer [][]int64
		for _, list := range lists {
			for n := -modulus; n <= modulus; n++ {
				next := append(slices.Clone(list), n)
				if squaresOf(next) <= modulus*modulus {
					longer = append(longer, next)
				}
			}
		}
		lists = longer
	}
	// In this order, the first one with a property is the one to return.
	slices.SortFunc(lists, func(a, b []int64) int {
		if squaresOf(a) != squaresOf(b) {
			return int(squaresOf(a) - squaresOf(b))
		}
		return slices.Compare(a, b)
	})
	return slices.DeleteFunc(lists, func(list []int64) bool { return !startsPositive(list) })
}

type search func(c impl.Congruence, dim int64) ([]int64, int64, bool)

func expectShortest(t *testing.T, what string, find search, c impl.Congruence, want []int64) {
	t.Helper()
	dim := int64(len(want))
	list, sum, ok := find(c, dim)
	expectList(t, fmt.Sprint(what, " of ", c, " with the dimension ", dim), list, ok, want)
	expect(t, fmt.Sprint("the sum of the ", what, " of ", c), sum, ok, squaresOf(want))
}

// Promise 4: of all lists, no point or wave is shorter, and none that is as
// short is less.
func TestShortestOfAllLists(t *testing.T) {
	for m := int64(2); m <= 16; m++ {
		for dim := 2; dim <= 4; dim++ {
			if dim == 4 && m > 7 {
				break
			}
			box := boxOf(m, dim)
			for factor := range m {
				c := impl.Congruence{Modulus: m, Factor: factor, Add: factor / 2}
				first := func(is func(impl.Congruence, []int64) bool) []int64 {
					return box[slices.IndexFunc(box, func(list []int64) bool { return is(c, list) })]
				}
				if dim < 4 {
					expectShortest(t, "shortest point", impl.ShortestPoint, c, first(isPoint))
				}
				expectShortest(t, "shortest wave", impl.ShortestWave, c, first(isWave))
			}
		}
	}
}

// factorsAround returns congruences with many and with few short points.
func factorsAround(d *draws) []impl.Congruence {
	var list []impl.Congruence
	for _, m := range []int64{31, 64, 100, 1009, 4096, 65536, 99991, 99999, 100000} {
		for _, factor := range []int64{0, 1, 2, m / 3, m / 2, m/2 + 1, m - 2, m - 1, d.below(m), d.below(m), d.below(m)} {
			list = append(list, impl.Congruence{Modulus: m, Factor: factor, Add: d.below(m)})
		}
	}
	return list
}

// slowPoint tries all beginnings, each with the two nearest remainders.
func slowPoint(c impl.Congruence, dim int) []int64 {
	a, m := c.Factor, c.Modulus
	best, least := [3]int64{}, int64(math.MaxInt64)
	for first := int64(1); first < m; first++ {
		above := a * first % m
		beyond := a * above % m
		for _, second := range []int64{above - m, above} {
			for _, third := range []int64{beyond - m, beyond} {
				if dim == 2 {
					third = 0
				}
				point := [3]int64{first, second, third}
				sum := squaresOf(point[:])
				if sum < least || sum == least && slices.Compare(point[:], best[:]) < 0 {
					best, least = point, sum
				}
			}
		}
	}
	return best[:dim]
}

// Promise 4: no point is shorter than the shortest one.
func TestShortestPoints(t *testing.T) {
	d := draws(36)
	for _, c := range factorsAround(&d) {
		for dim := 2; dim <= 3; dim++ {
			expectShortest(t, "shortest point", impl.ShortestPoint, c, slowPoint(c, dim))
		}
	}
}

// wavesWithin returns all waves whose sum of squares is at most the given one.
// It looks up their first two elements by the remainder of the others.
func wavesWithin(c impl.Congruence, dim int, most int64) [][]int64 {
	a, m := c.Factor, c.Modulus
	heads := map[int64][][2]int64{}
	reach := int64(math.Sqrt(float64(most))) + 1
	for x := -reach; x <= reach; x++ {
		for y := -reach; y <= reach; y++ {
			if x*x+y*y <= most {
				key := ((x+a*y)%m + m) % m
				heads[key] = append(heads[key], [2]int64{x, y})
			}
		}
	}
	var waves [][]int64
	for z := -reach; z <= reach; z++ {
		for w := -reach; w <= reach; w++ {
			if dim < 4 && w != 0 || dim < 3 && z != 0 || z*z+w*w > most {
				continue
			}
			square := a * a % m
			key := ((-square*z-square*a%m*w)%m + m) % m
			for _, head := range heads[key] {
				wave := []int64{head[0], head[1], z, w}[:dim]
				if sum := squaresOf(wave); sum > 0 && sum <= most {
					waves = append(waves, wave)
				}
			}
		}
	}
	return waves
}

// Promise 4: no wave is shorter than the shortest one.
func TestShortestWaves(t *testing.T) {
	d := draws(37)
	for _, c := range factorsAround(&d) {
		for dim := 2; dim <= 4; dim++ {
			list, sum, ok := impl.ShortestWave(c, int64(dim))
			if !ok || len(list) != dim || !isWave(c, list) || squaresOf(list) != sum || !startsPositive(list) {
				t.Fatalf("ShortestWave of %v with the dimension %d: got %v, %d and %v", c, dim, list, sum, ok)
			}
			for _, wave := range wavesWithin(c, dim, sum) {
				if squaresOf(wave) < sum || startsPositive(wave) && slices.Compare(wave, list) < 0 {
					t.Errorf("ShortestWave of %v with the dimension %d: got %v, but there is %v", c, dim, list, wave)
				}
			}
		}
	}
}

// gaussSquares returns the least sum of squares in a lattice of two vectors.
func gaussSquares(u, v [2]int64) int64 {
	for {
		times := int64(math.Round(float64(u[0]*v[0]+u[1]*v[1]) / float64(squaresOf(u[:]))))
		v = [2]int64{v[0] - times*u[0], v[1] - times*u[1]}
		if squaresOf(v[:]) >= squaresOf(u[:]) {
			return squaresOf(u[:])
		}
		u, v = v, u
	}
}

// Promise 4: in two dimensions, Gauss finds nothing shorter for any factor.
func TestShortestByReduction(t *testing.T) {
	d := draws(38)
	for range 1500 {
		m := 2 + d.below(d.below(99999)+1)
		c := impl.Congruence{Modulus: m, Factor: d.below(m), Add: d.below(m)}
		_, sum, ok := impl.ShortestPoint(c, 2)
		expect(t, fmt.Sprint("the shortest point of ", c), sum, ok, gaussSquares([2]int64{1, c.Factor}, [2]int64{0, m}))
		_, sum, ok = impl.ShortestWave(c, 2)
		expect(t, fmt.Sprint("the shortest wave of ", c), sum, ok, gaussSquares([2]int64{-c.Factor, 1}, [2]int64{m, 0}))
	}
}

func TestDimensions(t *testing.T) {
	for _, c := range []impl.Congruence{{Modulus: 2}, {Modulus: 10, Factor: 3, Add: 1}, {Modulus: 100000, Factor: 99999}} {
		for _, dim := range []int64{math.MinInt64, -2, -1, 0, 1, 2, 3, 4, 5, 6, 64, math.MaxInt64} {
			point, sum, ok := impl.ShortestPoint(c, dim)
			if want := dim == 2 || dim == 3; ok != want || !want && (len(point) > 0 || sum != 0) {
				t.Errorf("ShortestPoint of %v with the dimension %d: got %v, %d and %v", c, dim, point, sum, ok)
			}
			wave, sum, ok := impl.ShortestWave(c, dim)
			if want := 2 <= dim && dim <= 4; ok != want || !want && (len(wave) > 0 || sum != 0) {
				t.Errorf("ShortestWave of %v with the dimension %d: got %v, %d and %v", c, dim, wave, sum, ok)
			}
		}
	}
}
