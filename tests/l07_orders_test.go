package tests

import (
	"fmt"
	"math"
	"math/big"
	"slices"
	"testing"

	"loop.example/g01121/impl"
)

func TestShufflingLimits(t *testing.T) {
	got := []int64{impl.MaxCards, impl.MaxCounted, impl.MaxRiffles}
	if want := []int64{12, 5, 5}; !slices.Equal(got, want) {
		t.Errorf("got %v, want %v", got, want)
	}
}

// listsUpTo returns all lists of numbers, not negative, each of which is at
// most as great as the one of greatest at its index, in lexicographic order.
func listsUpTo(greatest []int64) [][]int64 {
	lists := [][]int64{{}}
	for _, most := range greatest {
		var longer [][]int64
		for _, list := range lists {
			for number := range most + 1 {
				longer = append(longer, append(slices.Clone(list), number))
			}
		}
		lists = longer
	}
	return lists
}

// allOrders returns the orders of n things in lexicographic order.
func allOrders(n int64) [][]int64 {
	orders := [][]int64{{}}
	for range n {
		var longer [][]int64
		for _, order := range orders {
			for number := range n {
				if !slices.Contains(order, number) {
					longer = append(longer, append(slices.Clone(order), number))
				}
			}
		}
		orders = longer
	}
	return orders
}

func isOrder(list []int64) bool {
	sorted := slices.Clone(list)
	slices.Sort(sorted)
	return len(list) >= 1 && len(list) <= 12 && slices.Equal(sorted, valuesFrom(0, 1, len(list)))
}

func factorial(n int64) int64 { return new(big.Int).MulRange(1, n).Int64() }

func drawnOrder(n int, d *draws) []int64 {
	var order []int64
	for number := range int64(n) {
		order = slices.Insert(order, int(d.below(number+1)), number)
	}
	return order
}

func reversed(list []int64) []int64 {
	list = slices.Clone(list)
	slices.Reverse(list)
	return list
}

// someOrders are orders of all sizes, most of them of many things.
func someOrders() [][]int64 {
	d := draws(701)
	var list [][]int64
	for n := 1; n <= 12; n++ {
		first := valuesFrom(0, 1, n)
		list = append(list, first, reversed(first), append(first[1:n:n], 0), append([]int64{int64(n) - 1}, first[:n-1]...))
		for range 3 * n {
			list = append(list, drawnOrder(n, &d))
		}
	}
	return list
}

// notOrders are lists that are no orders.
func notOrders() [][]int64 {
	list := [][]int64{
		nil, {}, {1}, {-1}, {12}, {0, 0}, {1, 1}, {1, 2}, {0, 2}, {-1, 0}, {0, -1}, {0, 1, 1}, {2, 2, 0}, {3, 1, 0}, {2, 1, -1},
		{math.MinInt64}, {math.MaxInt64}, {0, math.MaxInt64}, {math.MinInt64, 0}, {1 << 32, 1}, {0, 1 << 32}, {0, 256},
		valuesFrom(0, 1, 13), valuesFrom(0, 1, 14), reversed(valuesFrom(0, 1, 13)), valuesFrom(1, 1, 12), make([]int64, 12), make([]int64, 1000), valuesFrom(0, 1, 1000),
	}
	for i := range 12 {
		for _, wrong := range []int64{-1, 12, int64(i+1) % 12, math.MinInt64, math.MaxInt64} {
			order := valuesFrom(0, 1, 12)
			order[i] = wrong
			list = append(list, order)
		}
	}
	return list
}

func TestAreOrders(t *testing.T) {
	for n := range 6 {
		for _, list := range listsUpTo(slices.Repeat([]int64{int64(n) + 2}, n)) {
			for i := range list {
				list[i]--
			}
			if impl.IsOrder(list) != isOrder(list) {
				t.Errorf("IsOrder %v: got %v", list, !isOrder(list))
			}
		}
	}
	for _, order := range someOrders() {
		if !impl.IsOrder(order) {
			t.Errorf("%v is no order", order)
		}
	}
	for _, list := range notOrders() {
		if impl.IsOrder(list) {
			t.Errorf("%v is an order", list)
		}
	}
}

// expectOrderFails requires all functions with an order to fail.
func expectOrderFails(t *testing.T, order []int64) {
	t.Helper()
	choices, ok := impl.ChoicesOf(order)
	expectNoList(t, fmt.Sprint("ChoicesOf ", order), choices, ok)
	rank, ok := impl.RankOrder(order)
	expectFail(t, fmt.Sprint("RankOrder ", order), rank, ok)
	cycles, ok := impl.CyclesOf(order)
	if ok || len(cycles) != 0 {
		t.Errorf("CyclesOf %v: got %v and %v, want it to fail", order, cycles, ok)
	}
	rising, ok := impl.RisingOf(order)
	expectFail(t, fmt.Sprint("RisingOf ", order), rising, ok)
	for riffles := range int64(6) {
		chance, ok := impl.RiffleChance(order, riffles)
		expectFail(t, fmt.Sprint("RiffleChance ", order, " ", riffles), chance, ok)
	}
}

func TestNoOrders(t *testing.T) {
	for _, list := range notOrders() {
		expectOrderFails(t, list)
	}
}

// shuffler is one of the functions that shuffle by choices, as the document
// tells it: at which places it exchanges, and what choices it takes there.
type shuffler struct {
	name     string
	shuffle  func(choices []int64) ([]int64, bool)
	places   func(n int64) []int64
	greatest func(n, place int64) int64
}

// downward returns the places from the last one to the second one.
func downward(n int64) []int64 { return reversed(valuesFrom(1, 1, int(n-1))) }

func shufflers() []shuffler {
	return []shuffler{
		{"ShuffleBy", impl.ShuffleBy, downward, func(_, place int64) int64 { return place }},
		{"CyclicBy", impl.CyclicBy, downward, func(_, place int64) int64 { return place - 1 }},
		{"NaiveBy", impl.NaiveBy, func(n int64) []int64 { return valuesFrom(0, 1, int(n)) }, func(n, _ int64) int64 { return n - 1 }},
	}
}

func (s shuffler) bounds(n int64) []int64 {
	var list []int64
	for _, place := range s.places(n) {
		list = append(list, s.greatest(n, place))
	}
	return list
}

func (s shuffler) slow(n int64, choices []int64) []int64 {
	order := valuesFrom(0, 1, int(n))
	for i, place := range s.places(n) {
		here, there := order[place], order[choices[i]]
		order[place], order[choices[i]] = there, here
	}
	return order
}

func (s shuffler) check(t *testing.T, n int64, choices []int64) []int64 {
	t.Helper()
	got, ok := s.shuffle(choices)
	expectList(t, fmt.Sprint(s.name, " ", choices), got, ok, s.slow(n, choices))
	return got
}

func (s shuffler) expectFail(t *testing.T, choices []int64) {
	t.Helper()
	got, ok := s.shuffle(choices)
	expectNoList(t, fmt.Sprint(s.name, " ", choices), got, ok)
}

// countsBy counts what the shuffler returns for all lists of choices.
func (s shuffler) countsBy(t *testing.T, n int64) map[string]int64 {
	t.Helper()
	counts := map[string]int64{}
	for _, choices := range listsUpTo(s.bounds(n)) {
		counts[fmt.Sprint(s.check(t, n, choices))]++
	}
	return counts
}

func hasOneCycle(order []int64) bool {
	length := 1
	for i := order[0]; i != 0; i = order[i] {
		length++
	}
	return length == len(order)
}

// Promise 8: every order of a fair shuffle comes up equally often, and every
// order with one cycle of a cyclic one.
func TestShufflesAreFair(t *testing.T) {
	for n := int64(1); n <= 7; n++ {
		fair, cyclic := shufflers()[0].countsBy(t, n), shufflers()[1].countsBy(t, n)
		for _, order := range allOrders(n) {
			wanted := int64(0)
			if hasOneCycle(order) {
				wanted = 1
			}
			if got := fair[fmt.Sprint(order)]; got != 1 {
				t.Errorf("ShuffleBy returns %v for %d lists of choices", order, got)
			}
			if got := cyclic[fmt.Sprint(order)]; got != wanted {
				t.Errorf("CyclicBy returns %v for %d lists of choices", order, got)
			}
		}
	}
}

func TestShuffles(t *testing.T) {
	d := draws(702)
	for _, s := range shufflers() {
		for n := int64(1); n <= 12; n++ {
			bounds := s.bounds(n)
			s.check(t, n, bounds)
			s.check(t, n, make([]int64, len(bounds)))
			for range 40 {
				choices := slices.Clone(bounds)
				for i, most := range bounds {
					choices[i] = d.below(most + 1)
				}
				s.check(t, n, choices)
			}
		}
	}
}

func TestShufflesFail(t *testing.T) {
	for _, s := range shufflers() {
		for n := int64(1); n <= 12; n++ {
			for _, others := range [][]int64{s.bounds(n), make([]int64, len(s.bounds(n)))} {
				for i, most := range s.bounds(n) {
					choices := slices.Clone(others)
					for _, wrong := range []int64{most + 1, most + 2, -1, 12, 1 << 32, math.MaxInt64, math.MinInt64} {
						choices[i] = wrong
						s.expectFail(t, choices)
					}
					choices[i] = most
					s.check(t, n, choices)
				}
			}
		}
		for _, n := range []int64{13, 14, 64, 1000} {
			s.expectFail(t, make([]int64, len(s.bounds(n))))
		}
	}
	shufflers()[2].expectFail(t, nil)
	shufflers()[2].expectFail(t, []int64{})
}

// One thing has one order, and no choice for two of the three functions.
func TestOneThing(t *testing.T) {
	for _, s := range shufflers()[:2] {
		for _, choices := range [][]int64{nil, {}} {
			got, ok := s.shuffle(choices)
			expectList(t, s.name+" without choices", got, ok, []int64{0})
		}
	}
	got, ok := impl.NaiveBy([]int64{0})
	expectList(t, "NaiveBy of one thing", got, ok, []int64{0})
	got, ok = impl.ChoicesOf([]int64{0})
	expectList(t, "ChoicesOf one thing", got, ok, nil)
	got, ok = impl.NaiveCounts(1)
	expectList(t, "NaiveCounts of one thing", got, ok, []int64{1})
	rank, ok := impl.RankOrder([]int64{0})
	expect(t, "RankOrder of one thing", rank, ok, 0)
	got, ok = impl.OrderAt(1, 0)
	expectList(t, "OrderAt of one thing", got, ok, []int64{0})
	expectCycles(t, []int64{0}, [][]int64{{0}})
	rising, ok := impl.RisingOf([]int64{0})
	expect(t, "RisingOf one thing", rising, ok, 1)
}

// Promise 8: an order is that of its choices.
func TestChoicesOfOrders(t *testing.T) {
	orders := someOrders()
	for n := int64(1); n <= 6; n++ {
		orders = append(orders, allOrders(n)...)
		for _, choices := range listsUpTo(shufflers()[0].bounds(n)) {
			order, _ := impl.ShuffleBy(choices)
			got, ok := impl.ChoicesOf(order)
			expectList(t, fmt.Sprint("ChoicesOf ", order), got, ok, choices)
		}
	}
	for _, order := range orders {
		choices, ok := impl.ChoicesOf(order)
		if !ok || len(choices) != len(order)-1 {
			t.Errorf("ChoicesOf %v: got %v and %v", order, choices, ok)
			continue
		}
		got, ok := impl.ShuffleBy(choices)
		expectList(t, fmt.Sprint("ShuffleBy ", choices), got, ok, order)
	}
}

func TestNaiveCounts(t *testing.T) {
	for n := int64(1); n <= 5; n++ {
		counts, sum := shufflers()[2].countsBy(t, n), int64(0)
		var wanted []int64
		for _, order := range allOrders(n) {
			wanted = append(wanted, counts[fmt.Sprint(order)])
			sum += counts[fmt.Sprint(order)]
		}
		got, ok := impl.NaiveCounts(n)
		expectList(t, fmt.Sprint("NaiveCounts ", n), got, ok, wanted)
		if power := int64(math.Pow(float64(n), float64(n))); sum != power {
			t.Errorf("NaiveCounts %d: the sum is %d, not %d", n, sum, power)
		}
	}
	for _, n := range []int64{0, -1, 6, 7, 12, 13, 64, 1 << 32, math.MaxInt64, math.MinInt64} {
		got, ok := impl.NaiveCounts(n)
		expectNoList(t, fmt.Sprint("NaiveCounts ", n), got, ok)
	}
}

func checkRank(t *testing.T, order []int64, rank int64) {
	t.Helper()
	got, ok := impl.RankOrder(order)
	expect(t, fmt.Sprint("RankOrder ", order), got, ok, rank)
	at, ok := impl.OrderAt(int64(len(order)), rank)
	expectList(t, fmt.Sprint("OrderAt ", len(order), " ", rank), at, ok, order)
}

// Promise 8: an order is that of its rank.
func TestRanksOfOrders(t *testing.T) {
	for n := int64(1); n <= 7; n++ {
		for rank, order := range allOrders(n) {
			checkRank(t, order, int64(rank))
		}
	}
	for n := 1; n <= 12; n++ {
		first, last := valuesFrom(0, 1, n), factorial(int64(n))-1
		checkRank(t, first, 0)
		checkRank(t, reversed(first), last)
		for _, rank := range []int64{-1, last + 1, last + 2, 2*last + 2, -last - 1, math.MaxInt64, math.MinInt64, 1 << 32} {
			got, ok := impl.OrderAt(int64(n), rank)
			expectNoList(t, fmt.Sprint("OrderAt ", n, " ", rank), got, ok)
		}
	}
	for _, n := range []int64{0, -1, 13, 14, 20, 21, 64, math.MaxInt64, math.MinInt64} {
		for _, rank := range []int64{-1, 0, 1, 479001600, math.MaxInt64, math.MinInt64} {
			got, ok := impl.OrderAt(n, rank)
			expectNoList(t, fmt.Sprint("OrderAt ", n, " ", rank), got, ok)
		}
	}
}

// nextOrder returns the order that comes lexicographically behind an order: the
// last number that can be greater becomes as little greater as possible, and
// all behind it ascends.
func nextOrder(order []int64) ([]int64, bool) {
	for i := len(order) - 2; i >= 0; i-- {
		tail := slices.Clone(order[i:])
		slices.Sort(tail)
		if at := slices.Index(tail, order[i]) + 1; at < len(tail) {
			head := append(slices.Clone(order[:i]), tail[at])
			return append(head, slices.Delete(tail, at, at+1)...), true
		}
	}
	return nil, false
}

// The ranks of two orders of which one comes behind the other differ by 1, all
// over the orders of many things.
func TestRanksOfManyThings(t *testing.T) {
	for _, order := range someOrders() {
		rank, ok := impl.RankOrder(order)
		if !ok || rank < 0 || rank >= factorial(int64(len(order))) {
			t.Errorf("RankOrder %v: got %d and %v", order, rank, ok)
		}
		checkRank(t, order, rank)
		for range 30 {
			next, found := nextOrder(order)
			if !found {
				break
			}
			rank++
			checkRank(t, next, rank)
			order = next
		}
	}
	d := draws(703)
	for n := int64(1); n <= 12; n++ {
		for range 60 {
			rank := d.below(factorial(n))
			order, ok := impl.OrderAt(n, rank)
			if !ok || !isOrder(order) || len(order) != int(n) {
				t.Fatalf("OrderAt %d %d: got %v and %v", n, rank, order, ok)
			}
			checkRank(t, order, rank)
		}
	}
}

func expectCycles(t *testing.T, order []int64, want [][]int64) {
	t.Helper()
	got, ok := impl.CyclesOf(order)
	if !ok || !slices.EqualFunc(got, want, slices.Equal[[]int64]) {
		t.Errorf("CyclesOf %v: got %v and %v, want %v", order, got, ok, want)
	}
	// A cycle that grows into memory of its own changes no other one.
	for i := range got {
		_ = append(got[i], 99, 99)
	}
	if !slices.EqualFunc(got, want, slices.Equal[[]int64]) {
		t.Errorf("CyclesOf %v: the cycles share memory", order)
	}
}

// slowCycles takes the numbers in ascending order, and follows each one that is
// in no cycle yet.
func slowCycles(order []int64) [][]int64 {
	var cycles [][]int64
	for number := range int64(len(order)) {
		if slices.ContainsFunc(cycles, func(cycle []int64) bool { return slices.Contains(cycle, number) }) {
			continue
		}
		cycle := []int64{number}
		for next := order[number]; next != number; next = order[next] {
			cycle = append(cycle, next)
		}
		cycles = append(cycles, cycle)
	}
	return cycles
}

func TestCycles(t *testing.T) {
	orders := someOrders()
	for n := int64(1); n <= 6; n++ {
		orders = append(orders, allOrders(n)...)
	}
	for _, order := range orders {
		expectCycles(t, order, slowCycles(order))
	}
	expectCycles(t, []int64{2, 1, 0}, [][]int64{{0, 2}, {1}})
	expectCycles(t, []int64{1, 2, 0, 4, 3}, [][]int64{{0, 1, 2}, {3, 4}})
	expectCycles(t, []int64{3, 0, 2, 1}, [][]int64{{0, 3, 1}, {2}})
	twelve := valuesFrom(0, 1, 12)
	expectCycles(t, append(twelve[1:12:12], 0), [][]int64{twelve})
}

// slowRising counts the i for which i + 1 stands before i, and 1 more.
func slowRising(order []int64) int64 {
	count := int64(1)
	for i := range int64(len(order)) - 1 {
		if slices.Index(order, i+1) < slices.Index(order, i) {
			count++
		}
	}
	return count
}

func TestRising(t *testing.T) {
	orders := someOrders()
	for n := int64(1); n <= 6; n++ {
		orders = append(orders, allOrders(n)...)
	}
	for _, order := range orders {
		got, ok := impl.RisingOf(order)
		expect(t, fmt.Sprint("RisingOf ", order), got, ok, slowRising(order))
	}
	// The rising sequences are those of the numbers, not of the places.
	got, ok := impl.RisingOf([]int64{2, 0, 3, 1})
	expect(t, "RisingOf 2, 0, 3, 1", got, ok, 2)
	got, ok = impl.RisingOf([]int64{1, 3, 0, 2})
	expect(t, "RisingOf 1, 3, 0, 2", got, ok, 3)
}

// cyclesByProduct returns the coefficients of x (x + 1) (x + 2) and so on, with
// n factors: those of the numbers of orders by their cycles.
func cyclesByProduct(n int64) [13]int64 {
	var counts [13]int64
	counts[0] = 1
	for factor := range n {
		var product [13]int64
		for i, count := range counts[:12] {
			product[i] += factor * count
			product[i+1] += count
		}
		counts = product
	}
	return counts
}

// risingByPowers counts the orders of n things with some rising sequences by
// the powers of the numbers up to this one, with alternating signs.
func risingByPowers(n, rising int64) int64 {
	sum := new(big.Int)
	for k := range rising {
		term := new(big.Int).Exp(big.NewInt(rising-k), big.NewInt(n), nil)
		term.Mul(term, new(big.Int).Binomial(n+1, k))
		if k%2 == 1 {
			term.Neg(term)
		}
		sum.Add(sum, term)
	}
	return sum.Int64()
}

func checkCounts(t *testing.T, n, number, cycles, rising int64) {
	t.Helper()
	got, ok := impl.CountCycles(n, number)
	expect(t, fmt.Sprint("CountCycles ", n, " ", number), got, ok, cycles)
	got, ok = impl.CountRising(n, number)
	expect(t, fmt.Sprint("CountRising ", n, " ", number), got, ok, rising)
}

func TestCountsOfOrders(t *testing.T) {
	for n := int64(1); n <= 7; n++ {
		var cycles, rising [13]int64
		for _, order := range allOrders(n) {
			found, _ := impl.CyclesOf(order)
			sequences, _ := impl.RisingOf(order)
			cycles[len(found)]++
			rising[sequences]++
		}
		for number := range int64(13) {
			checkCounts(t, n, number, cycles[number], rising[number])
		}
	}
	for n := int64(1); n <= 12; n++ {
		cycles, all := cyclesByProduct(n), int64(0)
		for number := range int64(13) {
			checkCounts(t, n, number, cycles[number], risingByPowers(n, number))
			got, _ := impl.CountRising(n, number)
			all += got
		}
		if all != factorial(n) {
			t.Errorf("CountRising %d: all orders are %d", n, all)
		}
		checkCounts(t, n, 0, 0, 0)
		checkCounts(t, n, n, 1, 1)
	}
	checkCounts(t, 12, 12, 1, 1)
	checkCounts(t, 12, 1, 39916800, 1)
	checkCounts(t, 12, 6, 13339535, 162512286)
	checkCounts(t, 1, 12, 0, 0)
}

func TestCountsOfOrdersFail(t *testing.T) {
	for _, n := range []int64{-1, 0, 1, 6, 12, 13, 14, 60, math.MaxInt64, math.MinInt64} {
		for _, number := range []int64{-1, 0, 1, 12, 13, 14, 64, 1 << 32, math.MaxInt64, math.MinInt64} {
			if n >= 1 && n <= 12 && number >= 0 && number <= 12 {
				continue
			}
			got, ok := impl.CountCycles(n, number)
			expectFail(t, fmt.Sprint("CountCycles ", n, " ", number), got, ok)
			got, ok = impl.CountRising(n, number)
			expectFail(t, fmt.Sprint("CountRising ", n, " ", number), got, ok)
		}
	}
}

func TestOrderExamples(t *testing.T) {
	got, ok := impl.ShuffleBy([]int64{0, 1})
	expectList(t, "ShuffleBy", got, ok, []int64{2, 1, 0})
	got, ok = impl.NaiveCounts(3)
	expectList(t, "NaiveCounts", got, ok, []int64{4, 5, 5, 5, 4, 4})
	got, ok = impl.CyclicBy([]int64{0, 0})
	expectList(t, "CyclicBy", got, ok, []int64{1, 2, 0})
	got, ok = impl.NaiveBy([]int64{1, 1, 0})
	expectList(t, "NaiveBy", got, ok, []int64{2, 0, 1})
}
