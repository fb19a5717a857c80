package tests

import (
	"math"
	"math/big"
	"slices"
	"strconv"
	"testing"

	"loop.example/g01121/impl"
)

func isFraction(f impl.Fraction) bool {
	if f.Den < 1 || f.Den > maxPart || f.Num < -maxPart || f.Num > maxPart {
		return false
	}
	r := big.NewRat(f.Num, f.Den)
	return r.Num().Int64() == f.Num && r.Denom().Int64() == f.Den
}

// exact returns a big number as a fraction if it is a valid one.
func exact(r *big.Rat) (impl.Fraction, bool) {
	if !r.Num().IsInt64() || !r.Denom().IsInt64() {
		return impl.Fraction{}, false
	}
	f := impl.Fraction{Num: r.Num().Int64(), Den: r.Denom().Int64()}
	if !isFraction(f) {
		return impl.Fraction{}, false
	}
	return f, true
}

func expectRat(t *testing.T, what string, got impl.Fraction, ok bool, want *big.Rat) {
	t.Helper()
	f, fits := exact(want)
	if got != f || ok != fits {
		t.Errorf("%s: got %v and %v, want %v", what, got, ok, want)
	}
}

func rat(f impl.Fraction) *big.Rat { return big.NewRat(f.Num, f.Den) }

// someFractions returns valid fractions of all sizes, many of them at the
// limits or with denominators that have divisors in common.
func someFractions() []impl.Fraction {
	parts := []int64{1, 2, 3, 4, 6, 1 << 20, 1 << 32, 1<<59 + 1, 1 << 59, 999999937, 1000000000, 1000000007, 387420489, maxPart / 3, maxPart/2 - 1, maxPart / 2, maxPart/2 + 1, maxPart - 1, maxPart}
	list := []impl.Fraction{{Num: 0, Den: 1}}
	for i, n := range parts {
		for _, d := range parts {
			f := impl.Fraction{Num: n, Den: d}
			if i%2 == 1 {
				f.Num = -n
			}
			if isFraction(f) {
				list = append(list, f)
			}
		}
	}
	d := draws(3)
	for range 60 {
		n, size := d.below(2*maxPart+1)-maxPart, int64(1)<<(d.below(60))
		f, _ := exact(big.NewRat(n/size, 1+d.below(maxPart)/(int64(1)<<d.below(60))))
		if isFraction(f) {
			list = append(list, f)
		}
	}
	return list
}

func checkPair(t *testing.T, f, g impl.Fraction) {
	t.Helper()
	a, b, what := rat(f), rat(g), rat(f).String()+" and "+rat(g).String()
	got, ok := impl.AddFractions(f, g)
	expectRat(t, "the sum of "+what, got, ok, new(big.Rat).Add(a, b))
	got, ok = impl.SubFractions(f, g)
	expectRat(t, "the difference of "+what, got, ok, new(big.Rat).Sub(a, b))
	got, ok = impl.MulFractions(f, g)
	expectRat(t, "the product of "+what, got, ok, new(big.Rat).Mul(a, b))
	got, ok = impl.DivFractions(f, g)
	if g.Num == 0 {
		expectFail(t, "the quotient of "+what, got, ok)
	} else {
		expectRat(t, "the quotient of "+what, got, ok, new(big.Rat).Quo(a, b))
	}
	order, ok := impl.CompareFractions(f, g)
	expect(t, "the order of "+what, order, ok, int64(a.Cmp(b)))
}

func TestFractionsAreExact(t *testing.T) {
	list := someFractions()
	for _, f := range list {
		for _, g := range list {
			checkPair(t, f, g)
		}
	}
}

// Fractions of which the sum, before it is in lowest terms, has a numerator of
// more than 64 bits, but is a valid one.
func TestSumsThatCancel(t *testing.T) {
	d, valid := draws(4), 0
	for _, shared := range []int64{1 << 20, 1 << 40, 2401, 282475249, 3486784401, 999999937} {
		for _, factor := range []int64{999, 1000, 1001, 65536} {
			for range 20 {
				a := maxPart - d.below(maxPart/1000)
				product := new(big.Int).Mul(big.NewInt(a), big.NewInt(factor))
				b := shared - product.Mod(product, big.NewInt(shared)).Int64()
				f, g := impl.Fraction{Num: a, Den: shared}, impl.Fraction{Num: b, Den: shared * factor}
				if !isFraction(f) || !isFraction(g) {
					continue
				}
				checkPair(t, f, g)
				checkPair(t, impl.Fraction{Num: -a, Den: shared}, impl.Fraction{Num: -b, Den: shared * factor})
				if _, ok := impl.AddFractions(f, g); ok {
					valid++
				}
			}
		}
	}
	if valid == 0 {
		t.Error("no sum cancels")
	}
}

// Products and sums that are just at a limit, or just beyond it.
func TestFractionsAtTheLimits(t *testing.T) {
	one := impl.Fraction{Num: 1, Den: 1}
	great := impl.Fraction{Num: maxPart, Den: 1}
	small := impl.Fraction{Num: 1, Den: maxPart}
	minus := impl.Fraction{Num: -1, Den: 1}
	got, ok := impl.AddFractions(impl.Fraction{Num: maxPart - 1, Den: 1}, one)
	expect(t, "the greatest sum", got, ok, great)
	got, ok = impl.SubFractions(impl.Fraction{Num: 1 - maxPart, Den: 1}, one)
	expect(t, "the least difference", got, ok, impl.Fraction{Num: -maxPart, Den: 1})
	got, ok = impl.AddFractions(great, one)
	expectFail(t, "too great a sum", got, ok)
	got, ok = impl.AddFractions(great, small)
	expectFail(t, "a sum with too great a numerator", got, ok)
	got, ok = impl.AddFractions(small, small)
	expect(t, "a sum with half of the denominator", got, ok, impl.Fraction{Num: 1, Den: maxPart / 2})
	got, ok = impl.MulFractions(great, small)
	expect(t, "the product of the limits", got, ok, one)
	got, ok = impl.MulFractions(impl.Fraction{Num: 1000000000, Den: 1}, impl.Fraction{Num: -1000000000, Den: 1})
	expect(t, "the least product", got, ok, impl.Fraction{Num: -maxPart, Den: 1})
	got, ok = impl.MulFractions(small, impl.Fraction{Num: 1, Den: 2})
	expectFail(t, "a product with too great a denominator", got, ok)
	got, ok = impl.DivFractions(minus, impl.Fraction{Num: -maxPart, Den: 1})
	expect(t, "the least positive quotient", got, ok, small)
	got, ok = impl.DivFractions(one, impl.Fraction{Num: -1, Den: maxPart})
	expect(t, "the least quotient", got, ok, impl.Fraction{Num: -maxPart, Den: 1})
	order, ok := impl.CompareFractions(impl.Fraction{Num: maxPart - 1, Den: maxPart}, impl.Fraction{Num: maxPart - 2, Den: maxPart - 1})
	expect(t, "the order of neighbours", order, ok, 1)
}

func TestInvalidFractions(t *testing.T) {
	half := impl.Fraction{Num: 1, Den: 2}
	for _, f := range fractionPool() {
		if impl.ValidFraction(f) != isFraction(f) {
			t.Errorf("ValidFraction of %v is %v", f, impl.ValidFraction(f))
		}
		if isFraction(f) {
			continue
		}
		for _, pair := range [][2]impl.Fraction{{f, half}, {half, f}, {f, f}} {
			for _, calculate := range []func(f, g impl.Fraction) (impl.Fraction, bool){impl.AddFractions, impl.SubFractions, impl.MulFractions, impl.DivFractions} {
				got, ok := calculate(pair[0], pair[1])
				expectFail(t, "calculating with an invalid fraction", got, ok)
			}
			order, ok := impl.CompareFractions(pair[0], pair[1])
			expectFail(t, "comparing an invalid fraction", order, ok)
			sum, ok := impl.SumFractions(pair[:])
			expectFail(t, "the sum of invalid fractions", sum, ok)
		}
		text, ok := impl.FractionText(f)
		expectFail(t, "the text of an invalid fraction", text, ok)
	}
}

func TestMakeFraction(t *testing.T) {
	parts := numberPool()
	for n := int64(-12); n <= 12; n++ {
		parts = append(parts, n, n*(maxPart/12), n*999999937)
	}
	for _, n := range parts {
		for _, d := range parts {
			got, ok := impl.MakeFraction(n, d)
			if d == 0 || n < -maxPart || n > maxPart || d < -maxPart || d > maxPart {
				expectFail(t, "MakeFraction", got, ok)
			} else {
				expectRat(t, "MakeFraction", got, ok, big.NewRat(n, d))
			}
		}
	}
}

func TestSums(t *testing.T) {
	one, minus := impl.Fraction{Num: 1, Den: 1}, impl.Fraction{Num: -1, Den: 1}
	great := impl.Fraction{Num: maxPart, Den: 1}
	sum, ok := impl.SumFractions(nil)
	expect(t, "the sum of none", sum, ok, impl.Fraction{Num: 0, Den: 1})
	sum, ok = impl.SumFractions([]impl.Fraction{{Num: -2, Den: 3}})
	expect(t, "the sum of one", sum, ok, impl.Fraction{Num: -2, Den: 3})
	sum, ok = impl.SumFractions(slices.Repeat([]impl.Fraction{{Num: 1, Den: 64}}, 64))
	expect(t, "the sum of 64", sum, ok, one)
	sum, ok = impl.SumFractions(slices.Repeat([]impl.Fraction{{Num: 1, Den: 65}}, 65))
	expectFail(t, "the sum of 65", sum, ok)
	sum, ok = impl.SumFractions([]impl.Fraction{great, minus, one})
	expect(t, "a sum within the limits", sum, ok, great)
	sum, ok = impl.SumFractions([]impl.Fraction{great, one, minus})
	expectFail(t, "a sum beyond the limits on the way", sum, ok)
	sum, ok = impl.SumFractions([]impl.Fraction{{Num: 1, Den: maxPart}, {Num: 1, Den: 3}, {Num: -1, Den: 3}})
	expectFail(t, "a sum with too great a denominator on the way", sum, ok)
	sum, ok = impl.SumFractions([]impl.Fraction{one, {Num: 2, Den: 4}})
	expectFail(t, "a sum with an invalid fraction", sum, ok)
	harmonic := new(big.Rat)
	var list []impl.Fraction
	for n := int64(1); n <= 60; n++ {
		list = append(list, impl.Fraction{Num: 1, Den: n})
		harmonic.Add(harmonic, big.NewRat(1, n))
		if _, fits := exact(harmonic); !fits {
			break
		}
		got, ok := impl.SumFractions(list)
		expectRat(t, "a harmonic sum", got, ok, harmonic)
	}
	sum, ok = impl.SumFractions(list)
	expectFail(t, "the first harmonic sum that is not valid", sum, ok)
}

func TestFractionTexts(t *testing.T) {
	for _, f := range someFractions() {
		want := strconv.FormatInt(f.Num, 10)
		if f.Den != 1 {
			want += "/" + strconv.FormatInt(f.Den, 10)
		}
		text, ok := impl.FractionText(f)
		expect(t, "FractionText", text, ok, want)
		back, ok := impl.ReadFraction(text)
		expect(t, "ReadFraction "+text, back, ok, f)
	}
	for text, want := range map[string]impl.Fraction{
		"0": {Num: 0, Den: 1}, "-3/2": {Num: -3, Den: 2}, "12": {Num: 12, Den: 1},
		"1000000000000000000": {Num: maxPart, Den: 1}, "-1/1000000000000000000": {Num: -1, Den: maxPart},
	} {
		got, ok := impl.ReadFraction(text)
		expect(t, text, got, ok, want)
	}
	for _, s := range []string{"", "/", "1/", "/2", "//", "1//2", "1/2/3", "1/2/", "/1/2", "2/4", "3/1", "0/1", "0/2", "-0", "-0/3", "1/-2", "-1/-2", "1/0", "0/0", "+1/2", "1/+2", "01/2", "1/02", " 1/2", "1/2 ", "1 /2", "1/2\n", "1\\2", "0.5", "a", "1/a", "\xff", "1000000000000000001", "-1000000000000000001", "1/1000000000000000001", "9223372036854775808", "1/9223372036854775808", strconv.Itoa(math.MinInt64)} {
		got, ok := impl.ReadFraction(s)
		expectFail(t, strconv.Quote(s), got, ok)
	}
}
