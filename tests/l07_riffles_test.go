package tests

import (
	"fmt"
	"math"
	"math/big"
	"slices"
	"testing"

	"loop.example/g01121/impl"
)

// ways has, for each order, by how many of some equally likely ways it arises.
type ways map[[6]int64]int64

// key returns an order of at most 6 cards as a key.
func key(order []int64) [6]int64 {
	var k [6]int64
	copy(k[:], order)
	return k
}

// riffled lays two packets of cards into one another: a text has a bit for each
// card, 0 where it comes from the first packet, which has as many cards.
func riffled(cards []int64, text string) []int64 {
	first := cards
	second := cards[len(cards)-int(slowOnes(text)):]
	var after []int64
	for _, bit := range text {
		if bit == '0' {
			after, first = append(after, first[0]), first[1:]
		} else {
			after, second = append(after, second[0]), second[1:]
		}
	}
	return after
}

// riffledOnce returns the ways after one riffle more of n cards. A packet of k
// cards has the chance of the number of ways to choose k cards, which are the
// ways to lay it into the other one: all texts are equally likely.
func (w ways) riffledOnce(n int) ways {
	after := ways{}
	for cards, count := range w {
		for _, text := range textsOf(n) {
			after[key(riffled(cards[:n], text))] += count
		}
	}
	return after
}

// Promise 8: riffles have their chances.
func TestRifflesHaveTheirChances(t *testing.T) {
	for n := 1; n <= 6; n++ {
		w := ways{key(valuesFrom(0, 1, n)): 1}
		for riffles := range int64(6) {
			distance, all := new(big.Rat), int64(1)<<(int64(n)*riffles)
			for _, order := range allOrders(int64(n)) {
				want := big.NewRat(w[key(order)], all)
				got, ok := impl.RiffleChance(order, riffles)
				expectRat(t, fmt.Sprint("RiffleChance ", order, " ", riffles), got, ok, want)
				want.Sub(want, big.NewRat(1, factorial(int64(n))))
				distance.Add(distance, want.Abs(want))
			}
			got, ok := impl.RiffleDistance(int64(n), riffles)
			expectRat(t, fmt.Sprint("RiffleDistance ", n, " ", riffles), got, ok, distance.Quo(distance, big.NewRat(2, 1)))
			w = w.riffledOnce(n)
		}
	}
}

// chanceByBinomial follows the document with numbers of any size.
func chanceByBinomial(n, rising, riffles int64) *big.Rat {
	ways := new(big.Int)
	if things := int64(1)<<riffles + n - rising; things >= n {
		ways.Binomial(things, n)
	}
	return new(big.Rat).SetFrac(ways, new(big.Int).Lsh(big.NewInt(1), uint(riffles*n)))
}

func TestRiffleChances(t *testing.T) {
	for _, order := range someOrders() {
		n := int64(len(order))
		for riffles := range int64(6) {
			got, ok := impl.RiffleChance(order, riffles)
			expectRat(t, fmt.Sprint("RiffleChance ", order, " ", riffles), got, ok, chanceByBinomial(n, slowRising(order), riffles))
		}
	}
}

// orderWithRising returns an order with as many rising sequences.
func orderWithRising(n, rising int) []int64 {
	last := valuesFrom(0, 1, n-rising+1)
	return append(reversed(valuesFrom(int64(n-rising+1), 1, rising-1)), last...)
}

// With 5 riffles of 12 cards, there are more ways than a part of a fraction can
// be, and yet all chances are valid fractions, as each number of ways is even.
// The chances of all orders add up to 1.
func TestRiffleChancesAddUp(t *testing.T) {
	for n := 1; n <= 12; n++ {
		for riffles := range int64(6) {
			sum := new(big.Rat)
			for rising := 1; rising <= n; rising++ {
				order := orderWithRising(n, rising)
				chance, ok := impl.RiffleChance(order, riffles)
				what := fmt.Sprint("RiffleChance ", order, " ", riffles)
				if !ok || !isFraction(chance) {
					t.Fatalf("%s: got %v and %v", what, chance, ok)
				}
				expectRat(t, what, chance, ok, chanceByBinomial(int64(n), int64(rising), riffles))
				orders, _ := impl.CountRising(int64(n), int64(rising))
				sum.Add(sum, new(big.Rat).Mul(rat(chance), big.NewRat(orders, 1)))
			}
			if sum.Cmp(big.NewRat(1, 1)) != 0 {
				t.Errorf("the chances of %d riffles of %d cards add up to %v", riffles, n, sum)
			}
		}
	}
}

func TestRiffleChancesAtTheLimits(t *testing.T) {
	twelve := valuesFrom(0, 1, 12)
	for _, c := range []struct {
		order   []int64
		riffles int64
		want    impl.Fraction
	}{
		{[]int64{0}, 0, part(1, 1)}, {[]int64{0}, 1, part(1, 1)}, {[]int64{0}, 5, part(1, 1)},
		{twelve, 0, part(1, 1)}, {orderWithRising(12, 2), 0, part(0, 1)}, {reversed(twelve), 0, part(0, 1)}, {[]int64{1, 0}, 0, part(0, 1)},
		{twelve, 1, part(13, 4096)}, {orderWithRising(12, 2), 1, part(1, 4096)}, {orderWithRising(12, 3), 1, part(0, 1)}, {reversed(twelve), 3, part(0, 1)},
		{orderWithRising(12, 8), 3, part(1, 1<<36)}, {orderWithRising(12, 9), 3, part(0, 1)},
		{twelve, 5, part(15338678264>>3, 1<<57)}, {reversed(twelve), 5, part(225792840>>3, 1<<57)}, {orderWithRising(12, 2), 5, part(11058116888>>3, 1<<57)},
	} {
		got, ok := impl.RiffleChance(c.order, c.riffles)
		expect(t, fmt.Sprint("RiffleChance ", c.order, " ", c.riffles), got, ok, c.want)
	}
}

func TestRiffleDistances(t *testing.T) {
	for n := int64(1); n <= 8; n++ {
		even, before := big.NewRat(1, factorial(n)), big.NewRat(1, 1)
		for riffles := range int64(6) {
			what := fmt.Sprint("RiffleDistance ", n, " ", riffles)
			sum := new(big.Rat)
			for rising := int64(1); rising <= n; rising++ {
				difference := new(big.Rat).Sub(chanceByBinomial(n, rising, riffles), even)
				sum.Add(sum, difference.Abs(difference).Mul(difference, big.NewRat(risingByPowers(n, rising), 2)))
			}
			got, ok := impl.RiffleDistance(n, riffles)
			expectRat(t, what, got, ok, sum)
			if sum.Cmp(before) > 0 {
				t.Errorf("%s: got %v, which is more than %v", what, got, before)
			}
			before = sum
		}
	}
}

func TestRiffleDistancesAtTheLimits(t *testing.T) {
	for riffles := range int64(6) {
		got, ok := impl.RiffleDistance(1, riffles)
		expect(t, fmt.Sprint("RiffleDistance 1 ", riffles), got, ok, part(0, 1))
	}
	for _, c := range []struct {
		n, riffles int64
		want       impl.Fraction
	}{
		{2, 0, part(1, 2)}, {2, 1, part(1, 4)}, {2, 5, part(1, 64)}, {3, 0, part(5, 6)}, {3, 1, part(1, 3)}, {8, 0, part(40319, 40320)},
	} {
		got, ok := impl.RiffleDistance(c.n, c.riffles)
		expect(t, fmt.Sprint("RiffleDistance ", c.n, " ", c.riffles), got, ok, c.want)
	}
}

func TestRifflesFail(t *testing.T) {
	wrong := []int64{-1, 6, 7, 12, 32, 64, 1 << 32, math.MaxInt64, math.MinInt64}
	for _, riffles := range wrong {
		for _, order := range [][]int64{{0}, {0, 1}, {1, 0}, {0, 2, 1}, valuesFrom(0, 1, 12)} {
			got, ok := impl.RiffleChance(order, riffles)
			expectFail(t, fmt.Sprint("RiffleChance ", order, " ", riffles), got, ok)
		}
		for n := int64(1); n <= 8; n++ {
			got, ok := impl.RiffleDistance(n, riffles)
			expectFail(t, fmt.Sprint("RiffleDistance ", n, " ", riffles), got, ok)
		}
	}
	for _, n := range []int64{-1, 0, 9, 10, 12, 13, 64, 1 << 32, math.MaxInt64, math.MinInt64} {
		for _, riffles := range append(wrong, 0, 1, 2, 5) {
			got, ok := impl.RiffleDistance(n, riffles)
			expectFail(t, fmt.Sprint("RiffleDistance ", n, " ", riffles), got, ok)
		}
	}
}

func TestRiffleExamples(t *testing.T) {
	for _, order := range allOrders(3) {
		if slowRising(order) == 2 {
			got, ok := impl.RiffleChance(order, 1)
			expect(t, fmt.Sprint("RiffleChance ", order), got, ok, part(1, 8))
		}
	}
	if got := riffled([]int64{0, 1, 2, 3, 4}, "10110"); !slices.Equal(got, []int64{2, 0, 3, 4, 1}) {
		t.Errorf("the test itself riffles to %v", got)
	}
}
