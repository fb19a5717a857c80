package tests

import (
	"fmt"
	"math"
	"math/big"
	"testing"

	"loop.example/g01121/impl"
)

// slowNext makes a step as the document tells it.
func slowNext(c impl.Congruence, x int64) int64 {
	n := new(big.Int).Mul(big.NewInt(c.Factor), big.NewInt(x))
	n.Add(n, big.NewInt(c.Add))
	return n.Mod(n, big.NewInt(c.Modulus)).Int64()
}

// smallCongruences returns all congruences whose modulus is at most the given one.
func smallCongruences(modulus int64) []impl.Congruence {
	var list []impl.Congruence
	for m := int64(2); m <= modulus; m++ {
		for factor := range m {
			for add := range m {
				list = append(list, impl.Congruence{Modulus: m, Factor: factor, Add: add})
			}
		}
	}
	return list
}

// bigCongruences returns congruences whose modulus is MaxModulus or a bit less.
func bigCongruences() []impl.Congruence {
	list := []impl.Congruence{
		{Modulus: 100000, Factor: 99999, Add: 99999}, {Modulus: 100000, Factor: 0, Add: 99999}, {Modulus: 100000, Factor: 1, Add: 1},
		{Modulus: 100000, Factor: 1, Add: 0}, {Modulus: 100000, Factor: 21, Add: 3}, {Modulus: 100000, Factor: 2, Add: 1}, {Modulus: 100000, Factor: 10, Add: 7},
		{Modulus: 99991, Factor: 6, Add: 0}, {Modulus: 99991, Factor: 99990, Add: 5}, {Modulus: 99991, Factor: 48271, Add: 1},
		{Modulus: 65536, Factor: 2, Add: 65535}, {Modulus: 65536, Factor: 32769, Add: 1}, {Modulus: 65536, Factor: 3, Add: 0},
	}
	d := draws(31)
	for range 10 {
		m := 99000 + d.below(1001)
		list = append(list, impl.Congruence{Modulus: m, Factor: d.below(m), Add: d.below(m)})
	}
	return list
}

// someOfStates returns the least and the greatest states, and some others.
func someOfStates(c impl.Congruence, d *draws) []int64 {
	return []int64{0, 1, c.Modulus - 1, d.below(c.Modulus), d.below(c.Modulus)}
}

func TestCongruenceLimits(t *testing.T) {
	if impl.MaxModulus != 100000 || impl.MaxOutputs != 64 {
		t.Errorf("the limits are %d and %d", impl.MaxModulus, impl.MaxOutputs)
	}
}

func TestValidCongruences(t *testing.T) {
	numbers := []int64{math.MinInt64, -100000, -1, 0, 1, 2, 3, 99998, 99999, 100000, 100001, math.MaxInt64}
	for _, m := range numbers {
		for _, factor := range numbers {
			for _, add := range numbers {
				c := impl.Congruence{Modulus: m, Factor: factor, Add: add}
				want := m >= 2 && m <= 100000 && factor >= 0 && factor < m && add >= 0 && add < m
				if got := impl.ValidCongruence(c); got != want {
					t.Errorf("ValidCongruence of %v is %v", c, got)
				}
			}
		}
	}
}

// checkStates compares some steps with slow ones, and jumps and powers with both.
func checkStates(t *testing.T, c impl.Congruence, x int64, steps int) {
	t.Helper()
	what := fmt.Sprint("congruence ", c, " at ", x)
	at, states := x, []int64{}
	for n := range steps + 1 {
		far, ok := impl.JumpState(c, x, int64(n))
		expect(t, fmt.Sprint(what, ", jump ", n), far, ok, at)
		power, ok := impl.PowerCongruence(c, int64(n))
		if !ok || !impl.ValidCongruence(power) || power.Modulus != c.Modulus || slowNext(power, x) != at {
			t.Errorf("%s, power %d: got %v and %v, which shall lead to %d", what, n, power, ok, at)
		}
		if n <= impl.MaxOutputs {
			list, ok := impl.StatesOf(c, x, int64(n))
			expectList(t, fmt.Sprint(what, ", states ", n), list, ok, states)
		}
		after := slowNext(c, at)
		next, ok := impl.NextState(c, at)
		expect(t, what+", next", next, ok, after)
		at, states = after, append(states, after)
	}
}

// Promise 4: jumps lead where steps lead.
func TestCongruenceWalks(t *testing.T) {
	for _, c := range smallCongruences(6) {
		for x := range c.Modulus {
			checkStates(t, c, x, 20)
		}
	}
	d := draws(32)
	for _, c := range bigCongruences() {
		for _, x := range someOfStates(c, &d) {
			checkStates(t, c, x, 70)
		}
	}
}

// stateByFormula returns the state after n steps by the sum of a geometric series.
func stateByFormula(c impl.Congruence, x, n int64) int64 {
	m, sum := big.NewInt(c.Modulus), big.NewInt(n)
	power := new(big.Int).Exp(big.NewInt(c.Factor), big.NewInt(n), m)
	if c.Factor == 0 {
		sum = big.NewInt(min(n, 1))
	} else if c.Factor > 1 {
		// Modulo the product, the division leaves what it does modulo m.
		less := big.NewInt(c.Factor - 1)
		product := new(big.Int).Mul(m, less)
		sum.Exp(big.NewInt(c.Factor), big.NewInt(n), product)
		sum.Sub(sum, big.NewInt(1)).Mod(sum, product).Div(sum, less)
	}
	state := power.Mul(power, big.NewInt(x))
	state.Add(state, sum.Mul(sum, big.NewInt(c.Add)))
	return state.Mod(state, m).Int64()
}

// Promise 4: jumps lead where steps lead, however many they are.
func TestFarJumps(t *testing.T) {
	d := draws(33)
	for _, c := range append(bigCongruences(), smallCongruences(9)...) {
		for _, n := range []int64{0, 1, 2, 1 << 40, maxPart - 1, maxPart, d.below(maxPart), d.below(maxPart)} {
			power, ok := impl.PowerCongruence(c, n)
			zero, one := stateByFormula(c, 0, n), stateByFormula(c, 1, n)
			factor := (one - zero + c.Modulus) % c.Modulus
			expect(t, fmt.Sprint("power ", n, " of ", c), power, ok, impl.Congruence{Modulus: c.Modulus, Factor: factor, Add: zero})
			for _, x := range someOfStates(c, &d) {
				far, ok := impl.JumpState(c, x, n)
				expect(t, fmt.Sprint(c, " at ", x, ", jump ", n), far, ok, stateByFormula(c, x, n))
			}
		}
	}
}

// checkBack compares a congruence of steps back with all steps there are.
func checkBack(t *testing.T, c impl.Congruence) {
	t.Helper()
	before := map[int64]int64{}
	for x := range c.Modulus {
		before[(c.Factor*x+c.Add)%c.Modulus] = x
	}
	back, ok := impl.BackCongruence(c)
	if int64(len(before)) < c.Modulus {
		expectFail(t, fmt.Sprint("BackCongruence of ", c), back, ok)
		return
	}
	add := before[0]
	factor := (before[1] - add + c.Modulus) % c.Modulus
	expect(t, fmt.Sprint("BackCongruence of ", c), back, ok, impl.Congruence{Modulus: c.Modulus, Factor: factor, Add: add})
	for after, x := range before {
		if got, ok := impl.NextState(back, after); !ok || got != x {
			t.Errorf("%v leads from %d back to %d, want %d", back, after, got, x)
			return
		}
	}
}

func TestBackCongruences(t *testing.T) {
	for _, c := range append(smallCongruences(24), bigCongruences()...) {
		checkBack(t, c)
	}
}

func checkStateCycle(t *testing.T, c impl.Congruence, x int64) {
	t.Helper()
	wantBefore, wantLength := slowCycle(func(x int64) int64 { return (c.Factor*x + c.Add) % c.Modulus }, x)
	before, length, ok := impl.StateCycle(c, x)
	expect(t, fmt.Sprint("StateCycle of ", c, " at ", x), [2]int64{before, length}, ok, [2]int64{wantBefore, wantLength})
}

// Besides ordinary congruences, these have states to which several steps lead.
func TestStateCycles(t *testing.T) {
	for _, c := range smallCongruences(18) {
		for x := range c.Modulus {
			checkStateCycle(t, c, x)
		}
	}
	d := draws(34)
	for _, c := range bigCongruences() {
		for _, x := range someOfStates(c, &d) {
			checkStateCycle(t, c, x)
		}
	}
}

// divisorsTellFull decides by the theorem of Hull and Dobell.
func divisorsTellFull(c impl.Congruence) bool {
	for prime := int64(2); prime <= c.Modulus; prime++ {
		if c.Modulus%prime != 0 || !big.NewInt(prime).ProbablyPrime(0) {
			continue
		}
		if c.Add%prime == 0 || (c.Factor-1)%prime != 0 {
			return false
		}
	}
	return c.Modulus%4 != 0 || (c.Factor-1)%4 == 0
}

// Promise 4: full periods are those that divisors tell.
func TestFullCongruences(t *testing.T) {
	for _, c := range append(smallCongruences(37), bigCongruences()...) {
		if got, want := impl.IsFull(c), divisorsTellFull(c); got != want {
			t.Errorf("IsFull of %v is %v", c, got)
		}
	}
	for _, c := range smallCongruences(16) {
		full := true
		for x := range c.Modulus {
			_, length, ok := impl.StateCycle(c, x)
			full = full && ok && length == c.Modulus
		}
		if impl.IsFull(c) != full {
			t.Errorf("IsFull of %v is %v", c, !full)
		}
	}
	for _, c := range congruencePool() {
		if !impl.ValidCongruence(c) && impl.IsFull(c) {
			t.Errorf("%v is full, but not valid", c)
		}
	}
}

func TestFactorOrders(t *testing.T) {
	moduli := []int64{99989, 99991, 99999, 100000, 65536, 59049}
	for m := int64(2); m <= 120; m++ {
		moduli = append(moduli, m)
	}
	d := draws(35)
	for _, m := range moduli {
		factors := []int64{0, 1, 2 % m, m - 1, d.below(m), d.below(m), d.below(m)}
		if m <= 120 {
			for a := range m {
				factors = append(factors, a)
			}
		}
		for _, a := range factors {
			want, power := int64(1), a%m
			for power != 1 && want <= m {
				want, power = want+1, power*a%m
			}
			order, ok := impl.FactorOrder(a, m)
			what := fmt.Sprint("FactorOrder of ", a, " modulo ", m)
			if want > m {
				expectFail(t, what, order, ok)
			} else {
				expect(t, what, order, ok, want)
			}
		}
	}
	for _, pair := range [][2]int64{{1, 1}, {0, 1}, {0, 0}, {1, 0}, {1, -3}, {-1, 10}, {10, 10}, {11, 10}, {1, 100001}, {99999, 100001}, {math.MinInt64, math.MinInt64}, {math.MaxInt64, math.MaxInt64}, {1, math.MaxInt64}, {math.MinInt64, 7}} {
		order, ok := impl.FactorOrder(pair[0], pair[1])
		expectFail(t, fmt.Sprint("FactorOrder of ", pair), order, ok)
	}
}

func TestCongruenceTexts(t *testing.T) {
	for _, c := range append(smallCongruences(12), bigCongruences()...) {
		want := fmt.Sprintf("%d,%d,%d", c.Modulus, c.Factor, c.Add)
		text, ok := impl.CongruenceText(c)
		expect(t, fmt.Sprint("CongruenceText of ", c), text, ok, want)
		back, ok := impl.ReadCongruence(want)
		expect(t, "ReadCongruence of "+want, back, ok, c)
	}
	for _, s := range []string{
		"", ",", ",,", "none", "10", "10,3", "10,3,", "10,3,1,", "10,3,1,0", ",10,3,1", "10,,1", "10,3,1 ", " 10,3,1", "10, 3,1",
		"010,3,1", "10,03,1", "+10,3,1", "10,-0,1", "10,3,10", "10,10,1", "10,-1,1", "10,3,-1", "1,0,0", "0,0,0", "-2,0,0",
		"100001,0,0", "100000,100000,0", "10;3;1", "ten,3,1", "18446744073709551626,3,1", "10,3,1\n", "10,3,1\x00",
	} {
		c, ok := impl.ReadCongruence(s)
		expectFail(t, fmt.Sprintf("ReadCongruence of %q", s), c, ok)
	}
}

func TestCongruenceExamples(t *testing.T) {
	c := impl.Congruence{Modulus: 10, Factor: 3, Add: 1}
	states, ok := impl.StatesOf(c, 0, 4)
	expectList(t, "the states of the example", states, ok, []int64{1, 4, 3, 0})
	back, ok := impl.BackCongruence(c)
	expect(t, "the steps back of the example", back, ok, impl.Congruence{Modulus: 10, Factor: 7, Add: 3})
	before, ok := impl.NextState(back, 0)
	expect(t, "the state before 0", before, ok, 3)
	point, sum, ok := impl.ShortestPoint(c, 2)
	expectList(t, "the shortest point of the example", point, ok, []int64{1, 3})
	expect(t, "its sum of squares", sum, ok, 10)
	modulus, ok := impl.ModulusFrom([]int64{1, 4, 3, 0})
	expect(t, "the modulus of the example", modulus, ok, 10)
}

// checkCongruenceFails requires that no function accepts the congruence at the state.
func checkCongruenceFails(t *testing.T, c impl.Congruence, x int64) {
	t.Helper()
	what := fmt.Sprint("congruence ", c, " at ", x)
	next, ok := impl.NextState(c, x)
	expectFail(t, what, next, ok)
	for _, count := range []int64{0, 1} {
		states, ok := impl.StatesOf(c, x, count)
		expectNoList(t, what, states, ok)
		far, ok := impl.JumpState(c, x, count)
		expectFail(t, what, far, ok)
	}
	before, length, ok := impl.StateCycle(c, x)
	expectFail(t, what, [2]int64{before, length}, ok)
}

func checkNoCongruence(t *testing.T, c impl.Congruence) {
	t.Helper()
	power, ok := impl.PowerCongruence(c, 1)
	expectFail(t, fmt.Sprint("PowerCongruence of ", c), power, ok)
	back, ok := impl.BackCongruence(c)
	expectFail(t, fmt.Sprint("BackCongruence of ", c), back, ok)
	text, ok := impl.CongruenceText(c)
	expectFail(t, fmt.Sprint("CongruenceText of ", c), text, ok)
	for dim := int64(2); dim <= 4; dim++ {
		point, sum, ok := impl.ShortestPoint(c, dim)
		expectNoList(t, fmt.Sprint("ShortestPoint of ", c), append(point, repeated(sum, int(min(sum, 1)))...), ok)
		wave, sum, ok := impl.ShortestWave(c, dim)
		expectNoList(t, fmt.Sprint("ShortestWave of ", c), append(wave, repeated(sum, int(min(sum, 1)))...), ok)
	}
}

func TestCongruencesFail(t *testing.T) {
	for _, c := range congruencePool() {
		states := []int64{-1, math.MinInt64, 100000, math.MaxInt64}
		if impl.ValidCongruence(c) {
			states = append(states, c.Modulus)
		} else {
			states = append(states, 0, 1)
			checkNoCongruence(t, c)
		}
		for _, x := range states {
			checkCongruenceFails(t, c, x)
		}
	}
	for _, c := range []impl.Congruence{{Modulus: 2}, {Modulus: 10, Factor: 3, Add: 1}, {Modulus: 100000, Factor: 1, Add: 1}} {
		for _, count := range []int64{-1, 65, math.MinInt64, math.MaxInt64} {
			states, ok := impl.StatesOf(c, 0, count)
			expectNoList(t, "StatesOf with a wrong count", states, ok)
		}
		for _, n := range []int64{-1, maxPart + 1, math.MinInt64, math.MaxInt64} {
			far, ok := impl.JumpState(c, 0, n)
			expectFail(t, "JumpState by a wrong number", far, ok)
			power, ok := impl.PowerCongruence(c, n)
			expectFail(t, "PowerCongruence of a wrong number", power, ok)
		}
	}
}
