package tests

import (
	"fmt"
	"math"
	"math/bits"
	"slices"
	"testing"

	"loop.example/g01121/impl"
)

const polyLimit = int64(impl.PolyLimit)

func degreeOf(p int64) int { return bits.Len64(uint64(p)) - 1 }

// slowProduct adds up coefficients, which two polynomials below PolyLimit
// have up to the degree 62.
func slowProduct(a, b int64) int64 {
	var coefficients [63]int64
	for i := range 32 {
		for j := range 32 {
			coefficients[i+j] += a >> i & 1 * (b >> j & 1)
		}
	}
	product := int64(0)
	for i, c := range coefficients {
		product |= c % 2 << i
	}
	return product
}

// slowRemainder takes away multiples of the divisor by long division.
func slowRemainder(a, divisor int64) int64 {
	for i := 62; i >= degreeOf(divisor); i-- {
		if a>>i&1 == 1 {
			a ^= divisor << (i - degreeOf(divisor))
		}
	}
	return a
}

// somePolys returns polynomials of all degrees, all small ones among them.
func somePolys() []int64 {
	var list []int64
	for p := range int64(40) {
		list = append(list, p)
	}
	d := draws(31)
	for i := 6; i <= 32; i++ {
		end := int64(1) << i
		list = append(list, end-1, end/2, end/2+d.below(end/2), end/2+d.below(end/2))
	}
	return append(list, 1<<16-1, 1<<16, 1<<16+1, 1<<15, polyLimit-2)
}

func checkPolyPair(t *testing.T, a, b int64) {
	t.Helper()
	what := fmt.Sprint(a, " and ", b)
	product, ok := impl.MulPolys(a, b)
	if want := slowProduct(a, b); want < polyLimit {
		expect(t, "the product of "+what, product, ok, want)
	} else {
		expectFail(t, "the product of "+what, product, ok)
	}
	quotient, remainder, ok := impl.DividePolys(a, b)
	if b == 0 {
		expectFail(t, "the quotient of "+what, [2]int64{quotient, remainder}, ok)
		return
	}
	if !ok || quotient < 0 || quotient >= polyLimit || slowProduct(quotient, b)^remainder != a || remainder != 0 && degreeOf(remainder) >= degreeOf(b) {
		t.Errorf("the quotient of %s: got %d and %d", what, quotient, remainder)
	}
}

func TestPolyProductsAndQuotients(t *testing.T) {
	for _, a := range somePolys() {
		for _, b := range somePolys() {
			checkPolyPair(t, a, b)
		}
	}
	product, ok := impl.MulPolys(polyLimit-1, 1)
	expect(t, "the greatest product", product, ok, polyLimit-1)
	product, ok = impl.MulPolys(polyLimit/2, 1)
	expect(t, "a product with the degree 31", product, ok, polyLimit/2)
	product, ok = impl.MulPolys(polyLimit/2, 2)
	expectFail(t, "a product with the degree 32", product, ok)
}

// slowGcd returns the greatest of the common divisors of small polynomials.
func slowGcd(a, b int64) int64 {
	greatest := int64(0)
	for p := int64(1); p <= max(a, b); p++ {
		if slowRemainder(a, p) == 0 && slowRemainder(b, p) == 0 {
			greatest = p
		}
	}
	return greatest
}

func TestPolyDivisors(t *testing.T) {
	for a := range int64(64) {
		for b := range int64(64) {
			got, ok := impl.GcdPolys(a, b)
			expect(t, fmt.Sprint("GcdPolys of ", a, " and ", b), got, ok, slowGcd(a, b))
		}
	}
	list := somePolys()
	for _, a := range list {
		for _, b := range list {
			got, ok := impl.GcdPolys(a, b)
			if a == 0 && b == 0 {
				expect(t, "GcdPolys of 0 and 0", got, ok, 0)
			} else if !ok || got < 1 || slowRemainder(a, got) != 0 || slowRemainder(b, got) != 0 {
				t.Errorf("GcdPolys of %d and %d: got %d and %v", a, b, got, ok)
			}
			if c, small := impl.MulPolys(b, 37); small && slowProduct(a, 37) < polyLimit {
				more, ok := impl.GcdPolys(slowProduct(a, 37), c)
				expect(t, fmt.Sprint("GcdPolys of multiples of ", a, " and ", b), more, ok, slowProduct(got, 37))
			}
		}
	}
	got, ok := impl.GcdPolys(0, polyLimit-1)
	expect(t, "GcdPolys of 0 and another one", got, ok, polyLimit-1)
	got, ok = impl.GcdPolys(polyLimit-1, 0)
	expect(t, "GcdPolys of another one and 0", got, ok, polyLimit-1)
}

func TestPowersOfX(t *testing.T) {
	d := draws(32)
	for _, p := range somePolys() {
		if p == 0 {
			continue
		}
		power := slowRemainder(1, p)
		for n := range int64(80) {
			got, ok := impl.PowerOfX(n, p)
			expect(t, fmt.Sprint("PowerOfX ", n, " modulo ", p), got, ok, power)
			power = slowRemainder(power<<1, p)
		}
		for _, n := range []int64{maxJump, maxJump - 1, 1 << 59, 1<<59 - 1, d.below(maxJump)} {
			first, _ := impl.PowerOfX(n/3, p)
			second, _ := impl.PowerOfX(n-n/3, p)
			got, ok := impl.PowerOfX(n, p)
			expect(t, fmt.Sprint("PowerOfX ", n, " modulo ", p), got, ok, slowRemainder(slowProduct(first, second), p))
		}
	}
	got, ok := impl.PowerOfX(maxJump, 7)
	expect(t, "PowerOfX MaxJump modulo 7", got, ok, 2)
	for _, n := range []int64{0, 1, maxJump} {
		got, ok := impl.PowerOfX(n, 1)
		expect(t, "PowerOfX modulo 1", got, ok, 0)
	}
}

// irreducibles returns for each polynomial below 2 to the power of 17 whether
// it is irreducible, by marking all products.
func irreducibles() []bool {
	is := slices.Repeat([]bool{true}, 1<<17)
	is[0], is[1] = false, false
	for a := int64(2); a < 1<<9; a++ {
		for b := a; is[a] && degreeOf(a)+degreeOf(b) <= 16; b++ {
			is[slowShiftedProduct(a, b)] = false
		}
	}
	return is
}

func slowShiftedProduct(a, b int64) int64 {
	product := int64(0)
	for i := range degreeOf(a) + 1 {
		product ^= a >> i & 1 * b << i
	}
	return product
}

func TestPolyFactors(t *testing.T) {
	irreducible := irreducibles()
	for p := int64(1); p < 1<<17; p++ {
		list, ok := impl.FactorsOf(p)
		product := int64(1)
		for _, factor := range list {
			if factor < 2 || factor > p || !irreducible[factor] {
				t.Fatalf("FactorsOf %d: got %v", p, list)
			}
			product = slowShiftedProduct(product, factor)
		}
		if !ok || product != p || !slices.IsSorted(list) {
			t.Fatalf("FactorsOf %d: got %v and %v", p, list, ok)
		}
	}
	list, ok := impl.FactorsOf(85)
	expectList(t, "FactorsOf 85", list, ok, []int64{3, 3, 3, 3, 3, 3})
	list, ok = impl.FactorsOf(1)
	expectList(t, "FactorsOf 1", list, ok, nil)
	list, ok = impl.FactorsOf(1 << 16)
	expectList(t, "FactorsOf 1 << 16", list, ok, slices.Repeat([]int64{2}, 16))
}

func TestOrders(t *testing.T) {
	for p := int64(3); p < 1<<11; p += 2 {
		want, power := int64(1), slowRemainder(2, p)
		for power != 1 {
			want, power = want+1, slowRemainder(power<<1, p)
		}
		order, ok := impl.OrderOfX(p)
		expect(t, fmt.Sprint("OrderOfX ", p), order, ok, want)
		if got := impl.IsPrimitive(p); got != (want == 1<<degreeOf(p)-1) {
			t.Errorf("IsPrimitive %d is %v, the order is %d", p, got, want)
		}
	}
	for _, p := range []int64{1<<16 + 1, 69643, 1<<17 - 1, 1<<16 + 3, 1<<15 + 3} {
		order, ok := impl.OrderOfX(p)
		power, _ := impl.PowerOfX(order, p)
		expect(t, fmt.Sprint("x to the power of the order modulo ", p), power, ok, 1)
		for n := int64(1); n < order; n++ {
			if order%n == 0 {
				if power, _ := impl.PowerOfX(n, p); power == 1 {
					t.Errorf("OrderOfX %d is %d, but %d is enough", p, order, n)
				}
			}
		}
	}
	order, ok := impl.OrderOfX(1<<17 - 1)
	expect(t, "OrderOfX of all powers", order, ok, 17)
}

// A polynomial of the degree d is one of phi(2^d - 1) / d that are primitive.
func TestCountsOfPrimitivePolys(t *testing.T) {
	for degree, want := range []int{0, 1, 1, 2, 2, 6, 6, 18, 16, 48, 60, 176, 144} {
		count := 0
		for p := int64(1) << degree; p < 2<<degree; p++ {
			if impl.IsPrimitive(p) {
				count++
			}
		}
		if count != want {
			t.Errorf("%d primitive polynomials of the degree %d, want %d", count, degree, want)
		}
	}
	for p, want := range map[int64]bool{69643: true, 1<<16 + 1: false, 1<<17 + 9: false, 1<<16 - 1: false, -11: false, 11: true, 7: true, 31: false, 9: false, 3: true, 1: false, 2: false, 0: false, math.MinInt64: false, math.MaxInt64: false, 10: false, 22: false} {
		if got := impl.IsPrimitive(p); got != want {
			t.Errorf("IsPrimitive %d is %v", p, got)
		}
	}
}

func TestPolysFail(t *testing.T) {
	for _, p := range []int64{-1, polyLimit, polyLimit + 1, math.MinInt64, math.MaxInt64} {
		for _, q := range []int64{0, 1, 11, polyLimit - 1, p} {
			for _, pair := range [][2]int64{{p, q}, {q, p}} {
				product, ok := impl.MulPolys(pair[0], pair[1])
				expectFail(t, fmt.Sprint("MulPolys ", pair), product, ok)
				quotient, remainder, ok := impl.DividePolys(pair[0], pair[1])
				expectFail(t, fmt.Sprint("DividePolys ", pair), [2]int64{quotient, remainder}, ok)
				divisor, ok := impl.GcdPolys(pair[0], pair[1])
				expectFail(t, fmt.Sprint("GcdPolys ", pair), divisor, ok)
			}
		}
		power, ok := impl.PowerOfX(1, p)
		expectFail(t, fmt.Sprint("PowerOfX modulo ", p), power, ok)
	}
	for _, n := range []int64{-1, maxJump + 1, math.MinInt64, math.MaxInt64} {
		power, ok := impl.PowerOfX(n, 11)
		expectFail(t, fmt.Sprint("PowerOfX ", n), power, ok)
	}
	for _, n := range []int64{0, 1, maxJump} {
		power, ok := impl.PowerOfX(n, 0)
		expectFail(t, "PowerOfX modulo 0", power, ok)
	}
	for _, p := range []int64{-1, 0, 1 << 17, 1<<17 + 1, polyLimit - 1, math.MinInt64, math.MaxInt64} {
		list, ok := impl.FactorsOf(p)
		expectNoList(t, fmt.Sprint("FactorsOf ", p), list, ok)
	}
	for _, p := range []int64{-1, -3, 0, 1, 2, 4, 6, 1 << 16, 1<<17 - 2, 1 << 17, 1<<17 + 1, polyLimit - 1, math.MinInt64, math.MaxInt64} {
		order, ok := impl.OrderOfX(p)
		expectFail(t, fmt.Sprint("OrderOfX ", p), order, ok)
	}
}
