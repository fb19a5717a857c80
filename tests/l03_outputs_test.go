package tests

import (
	"fmt"
	"math"
	"math/big"
	"slices"
	"testing"

	"loop.example/g01121/impl"
)

// slowModulus returns the greatest common divisor of the numbers that the
// document tells, and 0 if all of them are 0.
func slowModulus(outputs []int64) int64 {
	divisor := new(big.Int)
	d := func(i int) *big.Int { return big.NewInt(outputs[i+1] - outputs[i]) }
	for i := range len(outputs) - 3 {
		n := new(big.Int).Mul(d(i+2), d(i))
		n.Sub(n, new(big.Int).Mul(d(i+1), d(i+1)))
		divisor.GCD(nil, nil, divisor, n.Abs(n))
	}
	return divisor.Int64()
}

func checkModulus(t *testing.T, outputs []int64) {
	t.Helper()
	what := fmt.Sprint("ModulusFrom ", outputs)
	got, ok := impl.ModulusFrom(outputs)
	if want := slowModulus(outputs); want == 0 {
		expectFail(t, what, got, ok)
	} else {
		expect(t, what, got, ok, want)
	}
}

// outputsFrom returns a state and those after it.
func outputsFrom(c impl.Congruence, x int64, count int) []int64 {
	list := []int64{x}
	for len(list) < count {
		x = slowNext(c, x)
		list = append(list, x)
	}
	return list
}

func TestModuli(t *testing.T) {
	for n := range int64(4096) {
		checkModulus(t, []int64{n % 8, n / 8 % 8, n / 64 % 8, n / 512})
	}
	d := draws(39)
	for range 2000 {
		list := make([]int64, 4+d.below(61))
		step := 1 + d.below(9)
		for i := range list {
			list[i] = step * d.below(100000/step)
		}
		checkModulus(t, list)
	}
	checkModulus(t, []int64{0, 99999, 0, 99999})
	checkModulus(t, []int64{99999, 0, 0, 99999})
	checkModulus(t, []int64{0, 99999, 99999, 0})
}

// The modulus of each congruence divides what its outputs tell.
func TestModulusOfOutputs(t *testing.T) {
	d := draws(40)
	for _, c := range append(bigCongruences(), smallCongruences(14)...) {
		for _, count := range []int{4, 5, 64} {
			outputs := outputsFrom(c, d.below(c.Modulus), count)
			checkModulus(t, outputs)
			if got, _ := impl.ModulusFrom(outputs); got%c.Modulus != 0 {
				t.Errorf("ModulusFrom %v is %d, but %v has these outputs", outputs, got, c)
			}
		}
	}
}

// Numbers that are all 0 tell no modulus.
func TestNoModulus(t *testing.T) {
	for _, list := range [][]int64{
		{0, 0, 0, 0}, {1, 1, 1, 1}, {0, 1, 2, 3}, {99999, 99998, 99997, 99996}, {1, 2, 4, 8, 16}, {7, 5, 5, 5}, repeated[int64](99999, 64),
	} {
		got, ok := impl.ModulusFrom(list)
		expectFail(t, fmt.Sprint("ModulusFrom ", list), got, ok)
	}
}

// slowFactors tries all congruences with a modulus.
func slowFactors(m int64, outputs []int64) []int64 {
	var factors []int64
	for factor := range m {
		for add := range m {
			x := outputs[0]
			rest := slices.IndexFunc(outputs[1:], func(want int64) bool {
				x = (factor*x + add) % m
				return x != want
			})
			if rest < 0 {
				factors = append(factors, factor)
			}
		}
	}
	return factors
}

func checkFactors(t *testing.T, m int64, outputs, want []int64) {
	t.Helper()
	what := fmt.Sprint("FactorsFrom ", m, " and ", outputs)
	got, ok := impl.FactorsFrom(m, outputs)
	if len(want) > impl.MaxItems {
		expectNoList(t, what, got, ok)
	} else {
		expectList(t, what, got, ok, want)
	}
}

func TestFactorsOfAllOutputs(t *testing.T) {
	for m := int64(2); m <= 7; m++ {
		for n := range m * m * m {
			list := []int64{n % m, n / m % m, n / m / m}
			checkFactors(t, m, list, slowFactors(m, list))
			for last := range m {
				longer := append(slices.Clone(list), last)
				checkFactors(t, m, longer, slowFactors(m, longer))
			}
		}
	}
}

func TestFactorsOfSomeOutputs(t *testing.T) {
	d := draws(41)
	for range 400 {
		m := 2 + d.below(139)
		c := impl.Congruence{Modulus: m, Factor: d.below(m), Add: d.below(m)}
		list := outputsFrom(c, d.below(m), 3+int(d.below(62)))
		checkFactors(t, m, list, slowFactors(m, list))
		list[d.below(int64(len(list)))] = d.below(m)
		checkFactors(t, m, list, slowFactors(m, list))
	}
}

// factorsByDivisor returns the factors of outputs with a given one: those that
// differ from it by multiples of what the differences leave of the modulus.
func factorsByDivisor(c impl.Congruence, outputs []int64) []int64 {
	shared := big.NewInt(c.Modulus)
	for i := range len(outputs) - 2 {
		n := big.NewInt(outputs[i+1] - outputs[i])
		shared.GCD(nil, nil, shared, n.Abs(n))
	}
	var factors []int64
	gap := c.Modulus / shared.Int64()
	for factor := c.Factor % gap; factor < c.Modulus; factor += gap {
		factors = append(factors, factor)
	}
	return factors
}

func TestFactorsOfBigModuli(t *testing.T) {
	d := draws(42)
	for _, c := range bigCongruences() {
		for _, x := range append(someOfStates(c, &d), c.Modulus/2, c.Modulus/4) {
			for _, count := range []int{3, 4, 63, 64} {
				list := outputsFrom(c, x, count)
				checkFactors(t, c.Modulus, list, factorsByDivisor(c, list))
			}
		}
	}
}

// As many factors as a set may have, and one more.
func TestManyFactors(t *testing.T) {
	for _, m := range []int64{63, 64, 65, 66} {
		var all []int64
		for factor := range m {
			all = append(all, factor)
		}
		for _, count := range []int{3, 64} {
			checkFactors(t, m, repeated(m-1, count)[:count:count], all)
		}
	}
	// The difference alone that the factor multiplies decides how many there are.
	for _, c := range []impl.Congruence{{Modulus: 99968, Factor: 1561, Add: 64}, {Modulus: 99968, Factor: 3, Add: 64}, {Modulus: 99970, Factor: 5, Add: 65}, {Modulus: 99970, Factor: 5, Add: 13}} {
		for _, count := range []int{3, 4, 64} {
			list := outputsFrom(c, 0, count)
			checkFactors(t, c.Modulus, list, factorsByDivisor(c, list))
		}
	}
	list := outputsFrom(impl.Congruence{Modulus: 99968, Factor: 1561, Add: 64}, 0, 3)
	if factors, ok := impl.FactorsFrom(99968, list); !ok || len(factors) != 64 || !slices.IsSorted(factors) {
		t.Errorf("FactorsFrom %v: got %v and %v", list, factors, ok)
	}
	// Without any congruence, there are no factors, and not too many ones.
	checkFactors(t, 100000, []int64{5, 5, 6}, nil)
	checkFactors(t, 100000, append(repeated[int64](7, 63), 99999), nil)
	checkFactors(t, 100000, []int64{0, 50000, 1}, nil)
}

func TestOutputsFail(t *testing.T) {
	for _, list := range [][]int64{
		nil, {}, {1}, {1, 4}, repeated[int64](1, 65), {1, 4, -1, 0}, {1, 4, 3, 100000}, {math.MinInt64, 4, 3, 0}, {1, math.MaxInt64, 3, 0}, {-1, 4, 3, 0}, {1, 4, 3, 0, -1},
	} {
		modulus, ok := impl.ModulusFrom(list)
		expectFail(t, fmt.Sprint("ModulusFrom ", list), modulus, ok)
		for _, m := range []int64{2, 10, 100000} {
			factors, ok := impl.FactorsFrom(m, list)
			expectNoList(t, fmt.Sprint("FactorsFrom ", m, " and ", list), factors, ok)
		}
	}
	long := outputsFrom(impl.Congruence{Modulus: 99991, Factor: 6, Add: 5}, 1, 65)
	modulus, ok := impl.ModulusFrom(long)
	expectFail(t, "ModulusFrom 65 outputs", modulus, ok)
	factors, ok := impl.FactorsFrom(99991, long)
	expectNoList(t, "FactorsFrom 65 outputs", factors, ok)
	modulus, ok = impl.ModulusFrom([]int64{1, 4, 3})
	expectFail(t, "ModulusFrom 3 outputs", modulus, ok)
	// These are outputs, but not less than the modulus, or it is none.
	for _, m := range []int64{math.MinInt64, -10, -1, 0, 1, 2, 3, 4, 100001, math.MaxInt64} {
		factors, ok := impl.FactorsFrom(m, []int64{1, 4, 3, 0})
		expectNoList(t, fmt.Sprint("FactorsFrom ", m), factors, ok)
		if m < 2 || m > 100000 {
			factors, ok = impl.FactorsFrom(m, []int64{0, 0, 0})
			expectNoList(t, fmt.Sprint("FactorsFrom ", m, " and zeros"), factors, ok)
		}
	}
	factors, ok = impl.FactorsFrom(10, []int64{0, 1, 10})
	expectNoList(t, "FactorsFrom an output like the modulus", factors, ok)
	factors, ok = impl.FactorsFrom(10, []int64{1, 4, 3, 0})
	expectList(t, "FactorsFrom outputs", factors, ok, []int64{3})
}
