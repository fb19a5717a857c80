package tests

import (
	"fmt"
	"math"
	"math/big"
	"slices"
	"testing"

	"loop.example/g01121/impl"
)

func part(n, d int64) impl.Fraction { return impl.Fraction{Num: n, Den: d} }

// expectLaw requires a law that the program itself accepts, too.
func expectLaw(t *testing.T, what string, got impl.Law, ok bool, want impl.Law) {
	t.Helper()
	if !ok || !slices.Equal(got.Values, want.Values) || !slices.Equal(got.Chances, want.Chances) {
		t.Errorf("%s: got %v and %v, want %v", what, got, ok, want)
	} else if !impl.ValidLaw(got) {
		t.Errorf("%s: %v is not valid", what, got)
	}
}

func expectNoLaw(t *testing.T, what string, got impl.Law, ok bool) {
	t.Helper()
	if ok || len(got.Values) != 0 || len(got.Chances) != 0 {
		t.Errorf("%s: got %v and %v, want it to fail", what, got, ok)
	}
}

// isLaw follows the document with numbers of any size.
func isLaw(l impl.Law) bool {
	if len(l.Values) < 1 || len(l.Values) > 64 || len(l.Chances) != len(l.Values) {
		return false
	}
	sum := new(big.Rat)
	for i, f := range l.Chances {
		if l.Values[i] < -maxValue || l.Values[i] > maxValue || i > 0 && l.Values[i] <= l.Values[i-1] {
			return false
		}
		if !isFraction(f) || f.Num < 1 {
			return false
		}
		if _, fits := exact(sum.Add(sum, rat(f))); !fits {
			return false
		}
	}
	return sum.Cmp(big.NewRat(1, 1)) == 0
}

// lawOfWeights gives each value its weight, divided by the sum of all weights.
func lawOfWeights(values, weights []int64) impl.Law {
	total := int64(0)
	for _, w := range weights {
		total += w
	}
	l := impl.Law{Values: values}
	for _, w := range weights {
		f, _ := exact(big.NewRat(w, total))
		l.Chances = append(l.Chances, f)
	}
	return l
}

// valuesFrom returns values of which each is greater by step than the one
// before it.
func valuesFrom(first, step int64, count int) []int64 {
	var values []int64
	for i := range int64(count) {
		values = append(values, first+step*i)
	}
	return values
}

func evenLaw(values []int64) impl.Law {
	return lawOfWeights(values, repeated[int64](1, len(values)))
}

// primesUpTo returns the greatest prime numbers up to a number.
func primesUpTo(n int64, count int) []int64 {
	var primes []int64
	for ; len(primes) < count; n-- {
		if big.NewInt(n).ProbablyPrime(20) {
			primes = append(primes, n)
		}
	}
	return primes
}

// tiltedLaw returns the law of groups of 8 values. All values had the same
// chance, but in each group, 1 divided by a large prime number of the group has
// been added to some chances, and subtracted from others: the signs leave mean
// and variance as they are, while the primes make sums of any size.
func tiltedLaw(groups int, step int64) impl.Law {
	signs := []int64{-1, 1, 1, -1, 1, -1, -1, 1}
	count := int64(8 * groups)
	l := impl.Law{}
	for group, prime := range primesUpTo(maxPart/(count*8), groups) {
		for i, sign := range signs {
			l.Values = append(l.Values, step*int64(group)+int64(i))
			l.Chances = append(l.Chances, part(prime+sign*count, prime*count))
		}
	}
	return l
}

// crookedLaw returns a law with the values from 0 to 7. The sums of first
// chances are valid, but most other sums are not, such as that of the first and
// the third chance. The denominators are at most a given number.
func crookedLaw(most int64) (law impl.Law, p, q int64) {
	primes := primesUpTo(most/16, 2)
	p, q = primes[0], primes[1]
	return impl.Law{Values: valuesFrom(0, 1, 8), Chances: []impl.Fraction{
		part(p-16, 16*p), part(3*p+16, 16*p), part(q-16, 16*q), part(3*q+16, 16*q),
		part(p+16, 16*p), part(3*p-16, 16*p), part(q+16, 16*q), part(3*q-16, 16*q),
	}}, p, q
}

// steepLaw returns a law of which each sum of first chances has another large
// prime number as its denominator, so that hardly any other sum is valid.
func steepLaw(values []int64) impl.Law {
	l, before, count := impl.Law{Values: values}, new(big.Rat), int64(len(values))
	for i, prime := range primesUpTo(999999999, len(values)) {
		sum := big.NewRat((int64(i)+1)*prime/count, prime)
		f, _ := exact(new(big.Rat).Sub(sum, before))
		l.Chances = append(l.Chances, f)
		before = sum
	}
	return l
}

// drawnLaw returns a law with as many values as count, which are at most size.
func drawnLaw(count int, size, weight int64, d *draws) impl.Law {
	drawn := map[int64]bool{}
	for len(drawn) < count {
		drawn[d.below(2*size+1)-size] = true
	}
	var values, weights []int64
	for value := range drawn {
		values = append(values, value)
		weights = append(weights, 1+d.below(weight))
	}
	slices.Sort(values)
	return lawOfWeights(values, weights)
}

func someLaws() []impl.Law {
	crooked, _, _ := crookedLaw(maxPart)
	list := []impl.Law{
		evenLaw([]int64{0}), evenLaw([]int64{5}), evenLaw([]int64{maxValue}), evenLaw([]int64{-maxValue}),
		evenLaw([]int64{-maxValue, maxValue}), evenLaw([]int64{-maxValue, 0, maxValue}), evenLaw([]int64{-1000000000, 1000000000}),
		evenLaw(valuesFrom(0, 1, 64)), evenLaw(valuesFrom(-maxValue, 2*maxValue/63, 64)), evenLaw(valuesFrom(maxValue-63, 1, 64)),
		{Values: []int64{0, 1}, Chances: []impl.Fraction{part(1, maxPart), part(maxPart-1, maxPart)}},
		{Values: []int64{-maxValue, maxValue}, Chances: []impl.Fraction{part(maxPart-1, maxPart), part(1, maxPart)}},
		{Values: []int64{1, 2, 3, 4}, Chances: []impl.Fraction{part(1, maxPart), part(maxPart/4-1, maxPart), part(1, 3), part(5, 12)}},
		lawOfWeights([]int64{-3, 4, 9}, []int64{1, 2, 3}), lawOfWeights([]int64{1, 2, 3, 4}, []int64{2, 1, 1, 2}),
		crooked, {Values: valuesFrom(-maxValue, maxValue/4, 8), Chances: crooked.Chances},
		steepLaw(valuesFrom(0, 1, 2)), steepLaw(valuesFrom(-5, 3, 3)), steepLaw(valuesFrom(-9, 1, 20)), steepLaw(valuesFrom(0, 1, 64)), steepLaw(valuesFrom(-maxValue, 2*maxValue/63, 64)),
		tiltedLaw(1, 0), tiltedLaw(4, 16), tiltedLaw(8, 8),
	}
	d := draws(81)
	for i, count := range []int{1, 2, 2, 3, 3, 4, 5, 6, 8, 9, 12, 16, 20, 32, 33, 63, 64} {
		for _, size := range []int64{40, 1000, 1000000007, maxValue} {
			list = append(list, drawnLaw(count, size, 1+int64(i)*size/100, &d))
		}
		list = append(list, drawnLaw(count, 40, 3, &d))
	}
	return list
}

// wrongLaws returns laws that are not valid, nearly all for one reason.
func wrongLaws() []impl.Law {
	half, whole := part(1, 2), part(1, 1)
	two := []int64{3, 7}
	crooked, _, _ := crookedLaw(maxPart)
	c := crooked.Chances
	return []impl.Law{
		{}, {Values: []int64{}, Chances: []impl.Fraction{}}, {Values: []int64{1}}, {Chances: []impl.Fraction{whole}},
		{Values: two, Chances: []impl.Fraction{whole}}, {Values: []int64{3}, Chances: []impl.Fraction{half, half}},
		evenLaw(valuesFrom(0, 1, 65)), evenLaw(valuesFrom(0, 1, 1000)),
		evenLaw([]int64{maxValue + 1}), evenLaw([]int64{-maxValue - 1}), evenLaw([]int64{-maxValue - 1, maxValue + 1}),
		evenLaw([]int64{math.MinInt64}), evenLaw([]int64{math.MaxInt64}), evenLaw([]int64{math.MinInt64, math.MaxInt64}),
		evenLaw([]int64{7, 3}), evenLaw([]int64{3, 3}), evenLaw([]int64{1, 2, 2}), evenLaw([]int64{1, 3, 2}), evenLaw([]int64{2, 1, 3}),
		{Values: two, Chances: []impl.Fraction{half, part(1, 3)}}, {Values: two, Chances: []impl.Fraction{half, part(2, 3)}}, {Values: two, Chances: []impl.Fraction{whole, whole}},
		{Values: []int64{3}, Chances: []impl.Fraction{half}}, {Values: []int64{3}, Chances: []impl.Fraction{part(2, 1)}}, {Values: []int64{3}, Chances: []impl.Fraction{part(-1, 1)}},
		{Values: two, Chances: []impl.Fraction{part(0, 1), whole}}, {Values: two, Chances: []impl.Fraction{whole, part(0, 1)}}, {Values: []int64{3}, Chances: []impl.Fraction{part(0, 1)}},
		{Values: two, Chances: []impl.Fraction{part(-1, 2), part(3, 2)}}, {Values: two, Chances: []impl.Fraction{part(3, 2), part(-1, 2)}},
		{Values: two, Chances: []impl.Fraction{part(2, 4), half}}, {Values: two, Chances: []impl.Fraction{half, part(-1, -2)}}, {Values: two, Chances: []impl.Fraction{{}, whole}},
		{Values: []int64{3}, Chances: []impl.Fraction{part(2, 2)}}, {Values: []int64{3}, Chances: []impl.Fraction{part(1, 0)}}, {Values: []int64{3}, Chances: []impl.Fraction{part(math.MinInt64, math.MinInt64)}},
		{Values: two, Chances: []impl.Fraction{part(1, maxPart+1), part(maxPart, maxPart+1)}},
		// The sum of all chances is 1, but some sum of first ones is not valid.
		{Values: crooked.Values, Chances: []impl.Fraction{c[0], c[2], c[1], c[3], c[4], c[5], c[6], c[7]}},
		{Values: crooked.Values, Chances: []impl.Fraction{c[0], c[1], c[2], c[4], c[3], c[5], c[6], c[7]}},
		{Values: crooked.Values, Chances: []impl.Fraction{c[0], c[1], c[2], c[3], c[4], c[7], c[6], c[5]}},
		{Values: crooked.Values, Chances: c[:7]}, {Values: crooked.Values[:7], Chances: c[:7]},
	}
}

func TestValidLaws(t *testing.T) {
	for _, l := range someLaws() {
		if !isLaw(l) || !impl.ValidLaw(l) {
			t.Errorf("%v is not valid: %v", l, isLaw(l))
		}
	}
	for _, l := range wrongLaws() {
		if isLaw(l) || impl.ValidLaw(l) {
			t.Errorf("%v is valid: %v", l, isLaw(l))
		}
	}
	c, _, _ := crookedLaw(maxPart)
	sum := new(big.Rat)
	for _, f := range []int{0, 2, 1, 3, 4, 5, 6, 7} {
		sum.Add(sum, rat(c.Chances[f]))
	}
	if sum.Cmp(big.NewRat(1, 1)) != 0 {
		t.Errorf("the sum of the chances is %v", sum)
	}
}

func TestWrongLaws(t *testing.T) {
	right := evenLaw([]int64{0, 1})
	for _, l := range wrongLaws() {
		what := fmt.Sprint(l)
		for _, value := range []int64{-1, 0, 3, 7, math.MinInt64, math.MaxInt64} {
			for _, f := range []func(impl.Law, int64) (impl.Fraction, bool){impl.ChanceOf, impl.TailOf, impl.LevelOf} {
				got, ok := f(l, value)
				expectFail(t, what, got, ok)
			}
		}
		for _, f := range []func(impl.Law) (impl.Fraction, bool){impl.MeanOf, impl.VarianceOf} {
			got, ok := f(l)
			expectFail(t, what, got, ok)
		}
		for _, pair := range [][2]impl.Law{{l, right}, {right, l}, {l, l}} {
			joined, ok := impl.JoinLaws(pair[0], pair[1])
			expectNoLaw(t, what, joined, ok)
		}
		text, ok := impl.LawText(l)
		expectFail(t, what, text, ok)
	}
}

// sumOfChances adds up those chances that a function chooses.
func sumOfChances(l impl.Law, chosen func(i int) bool) *big.Rat {
	sum := new(big.Rat)
	for i, f := range l.Chances {
		if chosen(i) {
			sum.Add(sum, rat(f))
		}
	}
	return sum
}

func checkValue(t *testing.T, l impl.Law, value int64) {
	t.Helper()
	what := fmt.Sprint(" ", value, " of ", l)
	chance := sumOfChances(l, func(i int) bool { return l.Values[i] == value })
	got, ok := impl.ChanceOf(l, value)
	expectRat(t, "ChanceOf"+what, got, ok, chance)
	got, ok = impl.TailOf(l, value)
	expectRat(t, "TailOf"+what, got, ok, sumOfChances(l, func(i int) bool { return l.Values[i] >= value }))
	if !ok {
		t.Errorf("TailOf %s fails", what)
	}
	got, ok = impl.LevelOf(l, value)
	expectRat(t, "LevelOf"+what, got, ok, sumOfChances(l, func(i int) bool { return rat(l.Chances[i]).Cmp(chance) <= 0 }))
}

func TestChancesOfValues(t *testing.T) {
	for _, l := range someLaws() {
		for _, value := range l.Values {
			for _, near := range []int64{value - 1, value, value + 1} {
				checkValue(t, l, near)
			}
		}
		for _, value := range []int64{0, maxValue, -maxValue, maxValue + 1, -maxValue - 1, math.MinInt64, math.MaxInt64} {
			checkValue(t, l, value)
		}
	}
}

// A value that a law does not have has the level 0, and equal chances count
// for one another.
func TestLevels(t *testing.T) {
	l := lawOfWeights([]int64{1, 2, 4, 5, 6}, []int64{2, 3, 1, 2, 4})
	for value, want := range map[int64]impl.Fraction{0: part(0, 1), 1: part(5, 12), 2: part(2, 3), 3: part(0, 1), 4: part(1, 12), 5: part(5, 12), 6: part(1, 1), 7: part(0, 1)} {
		level, ok := impl.LevelOf(l, value)
		expect(t, fmt.Sprint("LevelOf ", value), level, ok, want)
	}
	for value, want := range map[int64]impl.Fraction{0: part(1, 1), 1: part(1, 1), 2: part(5, 6), 3: part(7, 12), 4: part(7, 12), 6: part(1, 3), 7: part(0, 1)} {
		tail, ok := impl.TailOf(l, value)
		expect(t, fmt.Sprint("TailOf ", value), tail, ok, want)
	}
}

// The results are told by hand: what is between is not valid, and whether the
// result is depends on what cancels.
func TestResultsOfAnySize(t *testing.T) {
	l, p, q := crookedLaw(maxPart)
	for value, want := range map[int64]impl.Fraction{
		2: part(q-16, 16*q), 4: part(3*q-16, 16*q), 6: part(1, 4), 7: part(7*q-16, 16*q), 1: part(13*q-16, 16*q), 3: part(1, 1),
	} {
		level, ok := impl.LevelOf(l, value)
		expect(t, fmt.Sprint("LevelOf ", value), level, ok, want)
	}
	for _, value := range []int64{0, 5} {
		level, ok := impl.LevelOf(l, value)
		expectFail(t, fmt.Sprint("LevelOf ", value), level, ok)
	}
	tail, ok := impl.TailOf(l, 1)
	expect(t, "TailOf 1", tail, ok, part(15*p+16, 16*p))
	mean, ok := impl.MeanOf(l)
	expect(t, "MeanOf", mean, ok, part(15, 4))
	variance, ok := impl.VarianceOf(l)
	expectFail(t, "VarianceOf", variance, ok)
	for _, groups := range []int{1, 4, 8} {
		l := tiltedLaw(groups, 8)
		count := int64(len(l.Values))
		even := evenLaw(l.Values)
		mean, ok := impl.MeanOf(l)
		expect(t, fmt.Sprint("MeanOf ", l), mean, ok, part(count-1, 2))
		variance, ok := impl.VarianceOf(l)
		wanted, _ := impl.VarianceOf(even)
		expect(t, fmt.Sprint("VarianceOf ", l), variance, ok, wanted)
	}
}

// slowMoments returns mean and variance as the document tells them.
func slowMoments(l impl.Law) (mean, variance *big.Rat) {
	mean, variance = new(big.Rat), new(big.Rat)
	for i, value := range l.Values {
		mean.Add(mean, new(big.Rat).Mul(big.NewRat(value, 1), rat(l.Chances[i])))
	}
	for i, value := range l.Values {
		difference := new(big.Rat).Sub(big.NewRat(value, 1), mean)
		difference.Mul(difference, difference)
		variance.Add(variance, difference.Mul(difference, rat(l.Chances[i])))
	}
	return mean, variance
}

func TestMoments(t *testing.T) {
	failed, succeeded := [2]int{}, [2]int{}
	for _, l := range someLaws() {
		mean, variance := slowMoments(l)
		for i, want := range []*big.Rat{mean, variance} {
			got, ok := []func(impl.Law) (impl.Fraction, bool){impl.MeanOf, impl.VarianceOf}[i](l)
			expectRat(t, fmt.Sprint([]string{"MeanOf ", "VarianceOf "}[i], l), got, ok, want)
			if ok {
				succeeded[i]++
			} else {
				failed[i]++
			}
		}
	}
	if slices.Min(failed[:]) == 0 || slices.Min(succeeded[:]) == 0 {
		t.Errorf("only %v and %v moments fail and succeed", failed, succeeded)
	}
}

func TestMomentsAtTheLimits(t *testing.T) {
	for _, moments := range []struct {
		law            impl.Law
		mean, variance impl.Fraction // zero where they are not valid
	}{
		{evenLaw([]int64{maxValue}), part(maxValue, 1), part(0, 1)},
		{evenLaw([]int64{-maxValue}), part(-maxValue, 1), part(0, 1)},
		{evenLaw([]int64{0}), part(0, 1), part(0, 1)},
		{evenLaw([]int64{-maxValue, maxValue}), part(0, 1), impl.Fraction{}},
		{evenLaw([]int64{-1000000000, 1000000000}), part(0, 1), part(maxPart, 1)},
		{evenLaw([]int64{0, 2000000000}), part(1000000000, 1), part(maxPart, 1)},
		{evenLaw([]int64{-1000000001, 1000000001}), part(0, 1), impl.Fraction{}},
		{evenLaw([]int64{-1000000000, 1000000001}), part(1, 2), impl.Fraction{}},
		{lawOfWeights([]int64{maxValue - 1, maxValue}, []int64{1, 999}), part(maxPart-1, 1000), part(999, 1000000)},
		{lawOfWeights([]int64{-maxValue, 1 - maxValue}, []int64{999, 1}), part(1-maxPart, 1000), part(999, 1000000)},
		{lawOfWeights([]int64{maxValue - 1, maxValue}, []int64{1, 1000}), impl.Fraction{}, part(1000, 1002001)},
		{lawOfWeights([]int64{-maxValue, 1 - maxValue}, []int64{1000, 1}), impl.Fraction{}, part(1000, 1002001)},
		{lawOfWeights([]int64{0, 1}, []int64{maxPart - 1, 1}), part(1, maxPart), impl.Fraction{}},
		{lawOfWeights([]int64{-1, 0}, []int64{1, maxPart - 1}), part(-1, maxPart), impl.Fraction{}},
		{lawOfWeights([]int64{0, 1}, []int64{1, 999999999}), part(999999999, 1000000000), part(999999999, maxPart)},
		{lawOfWeights([]int64{0, 1}, []int64{1, 1000000000}), part(1000000000, 1000000001), impl.Fraction{}},
	} {
		mean, ok := impl.MeanOf(moments.law)
		if mean != moments.mean || ok != (moments.mean != impl.Fraction{}) {
			t.Errorf("MeanOf %v: got %v and %v, want %v", moments.law, mean, ok, moments.mean)
		}
		variance, ok := impl.VarianceOf(moments.law)
		if variance != moments.variance || ok != (moments.variance != impl.Fraction{}) {
			t.Errorf("VarianceOf %v: got %v and %v, want %v", moments.law, variance, ok, moments.variance)
		}
	}
}

// Variances of all sizes, up to those that are much too great.
func TestVariancesBySize(t *testing.T) {
	for size := range 50 {
		for _, weights := range [][]int64{{1, 1}, {1, 2}, {1, 999999999}, {500000000, 500000001}} {
			for _, value := range []int64{1<<size - 1, 1 << size, 1<<size + 1} {
				l := lawOfWeights([]int64{-1, value}, weights)
				_, want := slowMoments(l)
				got, ok := impl.VarianceOf(l)
				expectRat(t, fmt.Sprint("VarianceOf ", l), got, ok, want)
				l = lawOfWeights([]int64{-value - 1, value}, weights)
				_, want = slowMoments(l)
				got, ok = impl.VarianceOf(l)
				expectRat(t, fmt.Sprint("VarianceOf ", l), got, ok, want)
			}
		}
		l := evenLaw([]int64{-1 << size, 1 << size})
		_, want := slowMoments(l)
		got, ok := impl.VarianceOf(l)
		expectRat(t, fmt.Sprint("VarianceOf ", l), got, ok, want)
	}
}

// slowJoin adds up the chances of all pairs of values, and returns the law if
// it is valid.
func slowJoin(l, m impl.Law) (impl.Law, bool) {
	sums := map[int64]*big.Rat{}
	for i, v := range l.Values {
		for j, w := range m.Values {
			if sums[v+w] == nil {
				sums[v+w] = new(big.Rat)
			}
			sums[v+w].Add(sums[v+w], new(big.Rat).Mul(rat(l.Chances[i]), rat(m.Chances[j])))
		}
	}
	joined := impl.Law{}
	for value := range sums {
		joined.Values = append(joined.Values, value)
	}
	slices.Sort(joined.Values)
	for _, value := range joined.Values {
		f, _ := exact(sums[value])
		joined.Chances = append(joined.Chances, f)
	}
	return joined, isLaw(joined)
}

func checkJoin(t *testing.T, l, m impl.Law) bool {
	t.Helper()
	want, fits := slowJoin(l, m)
	got, ok := impl.JoinLaws(l, m)
	what := fmt.Sprint("JoinLaws ", l, " ", m)
	if fits {
		expectLaw(t, what, got, ok, want)
	} else {
		expectNoLaw(t, what, got, ok)
	}
	return fits
}

func TestJoinedLaws(t *testing.T) {
	list, valid := someLaws(), 0
	for i, l := range list {
		for _, m := range list[i:] {
			// Too many sums for any values: TestJoinLimits has some of these.
			if len(l.Values)+len(m.Values) > 66 {
				continue
			}
			if checkJoin(t, l, m) {
				valid++
			}
			checkJoin(t, m, l)
		}
	}
	if valid < 200 {
		t.Errorf("only %d joined laws are valid", valid)
	}
}

func TestJoinedLawsOfAnySize(t *testing.T) {
	eight := evenLaw(valuesFrom(-3, 1, 8))
	if !checkJoin(t, tiltedLaw(4, 16), eight) || !checkJoin(t, eight, tiltedLaw(4, 16)) {
		t.Error("a sum with a scale of any size is not valid")
	}
	crooked, _, _ := crookedLaw(maxPart)
	if checkJoin(t, crooked, crooked) || checkJoin(t, crooked, evenLaw([]int64{0, 100})) {
		t.Error("a sum with a chance that is no valid fraction is valid")
	}
	// All chances of the sum are valid. It depends on the order of its values
	// whether the sums of first chances are so, too.
	crooked, _, _ = crookedLaw(maxPart / 2)
	for i := range crooked.Values {
		crooked.Values[i] *= 10
	}
	if !checkJoin(t, crooked, evenLaw([]int64{0, 100})) {
		t.Error("a sum with valid chances is not valid")
	}
	if checkJoin(t, crooked, evenLaw([]int64{0, 15})) {
		t.Error("a sum is valid of which a sum of first chances is not")
	}
	joined, _ := slowJoin(crooked, evenLaw([]int64{0, 15}))
	for _, f := range joined.Chances {
		if !isFraction(f) {
			t.Errorf("%v is not valid", f)
		}
	}
}

func TestJoinLimits(t *testing.T) {
	one := evenLaw([]int64{1})
	for _, sizes := range [][2]int{{1, 64}, {2, 63}, {32, 33}, {33, 32}, {64, 1}, {1, 1}} {
		if !checkJoin(t, evenLaw(valuesFrom(0, 1, sizes[0])), evenLaw(valuesFrom(0, 1, sizes[1]))) {
			t.Errorf("%d and %d values have too many sums", sizes[0], sizes[1])
		}
	}
	for _, sizes := range [][2]int{{2, 64}, {64, 2}, {33, 33}, {3, 63}, {64, 64}} {
		if checkJoin(t, evenLaw(valuesFrom(0, 1, sizes[0])), evenLaw(valuesFrom(0, 1, sizes[1]))) {
			t.Errorf("%d and %d values have few sums", sizes[0], sizes[1])
		}
	}
	for _, factors := range [][2]int{{8, 8}, {2, 32}, {16, 4}} {
		if !checkJoin(t, evenLaw(valuesFrom(0, 1, factors[0])), evenLaw(valuesFrom(5, int64(factors[0]), factors[1]))) {
			t.Errorf("%d times %d values have too many sums", factors[0], factors[1])
		}
	}
	if checkJoin(t, evenLaw(valuesFrom(0, 1, 5)), evenLaw(valuesFrom(0, 5, 13))) {
		t.Error("65 sums are not too many")
	}
	if !checkJoin(t, one, evenLaw([]int64{-maxValue, maxValue - 1})) || !checkJoin(t, evenLaw([]int64{-maxValue}), evenLaw([]int64{maxValue})) {
		t.Error("a sum at the limit is not valid")
	}
	if checkJoin(t, one, evenLaw([]int64{maxValue})) || checkJoin(t, evenLaw([]int64{-maxValue, 0}), evenLaw([]int64{-1, 1})) {
		t.Error("a sum beyond the limit is valid")
	}
	even := evenLaw([]int64{0, 1})
	got, ok := impl.JoinLaws(even, even)
	expectLaw(t, "two coins", got, ok, lawOfWeights([]int64{0, 1, 2}, []int64{1, 2, 1}))
}

func TestLawTexts(t *testing.T) {
	for text, l := range map[string]impl.Law{
		"0:1":                evenLaw([]int64{0}),
		"-7:1":               evenLaw([]int64{-7}),
		"0:1/4 1:1/2 2:1/4":  lawOfWeights([]int64{0, 1, 2}, []int64{1, 2, 1}),
		"-3:1/6 4:1/3 9:1/2": lawOfWeights([]int64{-3, 4, 9}, []int64{1, 2, 3}),
		"-1000000000000000:999999999999999999/1000000000000000000 1000000000000000:1/1000000000000000000": lawOfWeights([]int64{-maxValue, maxValue}, []int64{maxPart - 1, 1}),
	} {
		got, ok := impl.LawText(l)
		expect(t, text, got, ok, text)
	}
	for _, l := range someLaws() {
		want := ""
		for i, value := range l.Values {
			f := l.Chances[i]
			want += fmt.Sprint(" ", value, ":", f.Num)
			if f.Den != 1 {
				want += fmt.Sprint("/", f.Den)
			}
		}
		got, ok := impl.LawText(l)
		expect(t, fmt.Sprint("LawText ", l), got, ok, want[1:])
	}
}
