package tests

import (
	"fmt"
	"math"
	"math/big"
	"slices"
	"testing"

	"loop.example/g01121/impl"
)

// slowReservoir offers one number after another to the slots.
func slowReservoir(slots int64, choices []int64) []int64 {
	kept := map[int64]int64{}
	for number := range slots + int64(len(choices)) {
		slot := number
		if number >= slots {
			slot = choices[number-slots]
		}
		kept[slot] = number
	}
	var list []int64
	for slot := range slots {
		list = append(list, kept[slot])
	}
	return list
}

func checkReservoir(t *testing.T, slots int64, choices []int64) []int64 {
	t.Helper()
	got, ok := impl.ReservoirBy(slots, choices)
	expectList(t, fmt.Sprint("ReservoirBy ", slots, " ", choices), got, ok, slowReservoir(slots, choices))
	return got
}

// setsOf returns the sets of size numbers below n, in lexicographic order.
func setsOf(n, size int64) [][]int64 {
	if size == 0 {
		return [][]int64{nil}
	}
	var sets [][]int64
	for _, list := range setsOf(n, size-1) {
		first := int64(0)
		if len(list) > 0 {
			first = list[len(list)-1] + 1
		}
		for number := first; number < n; number++ {
			sets = append(sets, append(slices.Clone(list), number))
		}
	}
	return sets
}

func binomial(n, k int64) int64 { return new(big.Int).Binomial(n, k).Int64() }

// checkEvenSets requires all sets to come up equally often.
func checkEvenSets(t *testing.T, what string, counts map[string]int64, lists, n, size int64) {
	t.Helper()
	sets := setsOf(n, size)
	for _, set := range sets {
		if got := counts[fmt.Sprint(set)]; got*int64(len(sets)) != lists {
			t.Errorf("%s: %d of %d lists of choices keep %v", what, got, lists, set)
		}
	}
	if len(counts) != len(sets) {
		t.Errorf("%s: keeps %d sets, not %d", what, len(counts), len(sets))
	}
}

// Promise 8: reservoirs are even, whatever their slots and as long as they are
// filled.
func TestReservoirsAreEven(t *testing.T) {
	for slots := int64(1); slots <= 5; slots++ {
		for offered := range 7 - int(slots) {
			counts, lists := map[string]int64{}, listsUpTo(valuesFrom(slots, 1, offered))
			for _, choices := range lists {
				kept := checkReservoir(t, slots, choices)
				slices.Sort(kept)
				counts[fmt.Sprint(kept)]++
			}
			what := fmt.Sprint("ReservoirBy ", slots, " with ", offered, " choices")
			checkEvenSets(t, what, counts, int64(len(lists)), slots+int64(offered), slots)
		}
	}
}

func TestReservoirs(t *testing.T) {
	d := draws(711)
	for slots := int64(1); slots <= 12; slots++ {
		for offered := range 13 {
			bounds := valuesFrom(slots, 1, offered)
			checkReservoir(t, slots, bounds)
			checkReservoir(t, slots, make([]int64, offered))
			checkReservoir(t, slots, repeated(slots-1, offered))
			checkReservoir(t, slots, repeated(slots, offered))
			for range 20 {
				choices := slices.Clone(bounds)
				for i, most := range bounds {
					choices[i] = d.below(most + 1)
				}
				checkReservoir(t, slots, choices)
			}
		}
		got, ok := impl.ReservoirBy(slots, nil)
		expectList(t, fmt.Sprint("ReservoirBy ", slots, " without choices"), got, ok, valuesFrom(0, 1, int(slots)))
	}
	got, ok := impl.ReservoirBy(12, valuesFrom(0, 1, 12))
	expectList(t, "the greatest ReservoirBy", got, ok, valuesFrom(12, 1, 12))
	got, ok = impl.ReservoirBy(1, make([]int64, 12))
	expectList(t, "ReservoirBy with one slot", got, ok, []int64{12})
	got, ok = impl.ReservoirBy(1, valuesFrom(1, 1, 12))
	expectList(t, "ReservoirBy with one slot", got, ok, []int64{0})
}

func TestReservoirsFail(t *testing.T) {
	for slots := int64(1); slots <= 12; slots++ {
		for _, offered := range []int{1, 2, 5, 12} {
			for i := range offered {
				for _, others := range [][]int64{make([]int64, offered), valuesFrom(slots, 1, offered)} {
					greatest := slots + int64(i)
					for _, wrong := range []int64{greatest + 1, greatest + 2, -1, 100, 1 << 32, math.MaxInt64, math.MinInt64} {
						others[i] = wrong
						got, ok := impl.ReservoirBy(slots, others)
						expectNoList(t, fmt.Sprint("ReservoirBy ", slots, " ", others), got, ok)
					}
					others[i] = greatest
					checkReservoir(t, slots, others)
				}
			}
		}
		for _, offered := range []int{13, 14, 64, 1000} {
			got, ok := impl.ReservoirBy(slots, make([]int64, offered))
			expectNoList(t, fmt.Sprint("ReservoirBy ", slots, " with ", offered, " choices"), got, ok)
		}
	}
	for _, slots := range []int64{-1, 0, 13, 14, 64, 1 << 32, math.MaxInt64, math.MinInt64} {
		for _, offered := range []int{0, 1, 12} {
			got, ok := impl.ReservoirBy(slots, make([]int64, offered))
			expectNoList(t, fmt.Sprint("ReservoirBy ", slots, " with ", offered, " choices"), got, ok)
		}
	}
}

// slowSample follows the document with the set in a map.
func slowSample(n int64, choices []int64) []int64 {
	chosen := map[int64]bool{}
	for i, choice := range choices {
		if chosen[choice] {
			choice = n - int64(len(choices)) + int64(i)
		}
		chosen[choice] = true
	}
	var set []int64
	for number := range n {
		if chosen[number] {
			set = append(set, number)
		}
	}
	return set
}

func checkSample(t *testing.T, n int64, choices []int64) []int64 {
	t.Helper()
	got, ok := impl.SampleBy(n, choices)
	expectList(t, fmt.Sprint("SampleBy ", n, " ", choices), got, ok, slowSample(n, choices))
	if len(got) != len(choices) {
		t.Errorf("SampleBy %d %v: got %v", n, choices, got)
	}
	return got
}

// Promise 8: samples are even.
func TestSamplesAreEven(t *testing.T) {
	for n := int64(1); n <= 7; n++ {
		for size := range n + 1 {
			counts, lists := map[string]int64{}, listsUpTo(valuesFrom(n-size, 1, int(size)))
			for _, choices := range lists {
				counts[fmt.Sprint(checkSample(t, n, choices))]++
			}
			checkEvenSets(t, fmt.Sprint("SampleBy ", n, " with ", size, " choices"), counts, int64(len(lists)), n, size)
		}
	}
}

func TestSamples(t *testing.T) {
	d := draws(712)
	for n := int64(1); n <= 12; n++ {
		for size := range n + 1 {
			bounds := valuesFrom(n-size, 1, int(size))
			checkSample(t, n, bounds)
			checkSample(t, n, make([]int64, size))
			checkSample(t, n, repeated(n-size, int(size)))
			for range 20 {
				choices := slices.Clone(bounds)
				for i, most := range bounds {
					choices[i] = d.below(most + 1)
				}
				checkSample(t, n, choices)
			}
		}
		got, ok := impl.SampleBy(n, nil)
		expectList(t, fmt.Sprint("SampleBy ", n, " without choices"), got, ok, nil)
		got, ok = impl.SampleBy(n, make([]int64, n))
		expectList(t, fmt.Sprint("SampleBy ", n, " of all numbers"), got, ok, valuesFrom(0, 1, int(n)))
	}
}

func TestSamplesFail(t *testing.T) {
	for n := int64(1); n <= 12; n++ {
		for size := int64(1); size <= n; size++ {
			for i := range size {
				for _, others := range [][]int64{make([]int64, size), valuesFrom(n-size, 1, int(size))} {
					greatest := n - size + i
					for _, wrong := range []int64{greatest + 1, greatest + 2, -1, 12, 1 << 32, math.MaxInt64, math.MinInt64} {
						others[i] = wrong
						got, ok := impl.SampleBy(n, others)
						expectNoList(t, fmt.Sprint("SampleBy ", n, " ", others), got, ok)
					}
					others[i] = greatest
					checkSample(t, n, others)
				}
			}
		}
		for _, size := range []int64{n + 1, n + 2, 13, 64, 1000} {
			got, ok := impl.SampleBy(n, make([]int64, size))
			expectNoList(t, fmt.Sprint("SampleBy ", n, " with ", size, " choices"), got, ok)
		}
	}
	for _, n := range []int64{-1, 0, 13, 14, 64, 1 << 32, math.MaxInt64, math.MinInt64} {
		for _, size := range []int{0, 1, 12, 13} {
			got, ok := impl.SampleBy(n, make([]int64, size))
			expectNoList(t, fmt.Sprint("SampleBy ", n, " with ", size, " choices"), got, ok)
		}
	}
}

func checkSet(t *testing.T, n int64, set []int64, rank int64) {
	t.Helper()
	got, ok := impl.RankSet(n, set)
	expect(t, fmt.Sprint("RankSet ", n, " ", set), got, ok, rank)
	at, ok := impl.SetAt(n, int64(len(set)), rank)
	expectList(t, fmt.Sprint("SetAt ", n, " ", len(set), " ", rank), at, ok, set)
}

// Promise 8: a set is that of its rank.
func TestRanksOfSets(t *testing.T) {
	for n := int64(1); n <= 9; n++ {
		for size := range n + 1 {
			for rank, set := range setsOf(n, size) {
				checkSet(t, n, set, int64(rank))
			}
		}
	}
	for n := int64(1); n <= 60; n++ {
		for size := range n + 1 {
			last := binomial(n, size) - 1
			checkSet(t, n, valuesFrom(0, 1, int(size)), 0)
			checkSet(t, n, valuesFrom(n-size, 1, int(size)), last)
			for _, rank := range []int64{-1, last + 1, last + 2, 2*last + 2, -last - 1, math.MaxInt64, math.MinInt64} {
				got, ok := impl.SetAt(n, size, rank)
				expectNoList(t, fmt.Sprint("SetAt ", n, " ", size, " ", rank), got, ok)
			}
		}
		checkSet(t, n, nil, 0)
	}
	checkSet(t, 60, valuesFrom(30, 1, 30), 118264581564861423)
}

// slowRank adds up, for each number of a set, the sets with the same numbers
// before it and a lesser one there.
func slowRank(n int64, set []int64) int64 {
	rank, first := int64(0), int64(0)
	for i, number := range set {
		for lesser := first; lesser < number; lesser++ {
			rank += binomial(n-1-lesser, int64(len(set)-i-1))
		}
		first = number + 1
	}
	return rank
}

// nextSet returns the set that comes lexicographically behind a set.
func nextSet(n int64, set []int64) ([]int64, bool) {
	size := int64(len(set))
	for i := size - 1; i >= 0; i-- {
		if set[i] < n-size+i {
			return append(slices.Clone(set[:i]), valuesFrom(set[i]+1, 1, int(size-i))...), true
		}
	}
	return nil, false
}

func drawnSet(n, size int64, d *draws) []int64 {
	numbers := valuesFrom(0, 1, int(n))
	for int64(len(numbers)) > size {
		i := int(d.below(int64(len(numbers))))
		numbers = slices.Delete(numbers, i, i+1)
	}
	return numbers
}

func TestRanksOfManySets(t *testing.T) {
	d := draws(713)
	for n := int64(1); n <= 60; n++ {
		for range 12 {
			size := d.below(n + 1)
			set := drawnSet(n, size, &d)
			rank := slowRank(n, set)
			checkSet(t, n, set, rank)
			if next, found := nextSet(n, set); found {
				checkSet(t, n, next, rank+1)
			}
			rank = d.below(binomial(n, size))
			set, ok := impl.SetAt(n, size, rank)
			if !ok || int64(len(set)) != size {
				t.Fatalf("SetAt %d %d %d: got %v and %v", n, size, rank, set, ok)
			}
			checkSet(t, n, set, rank)
		}
	}
}

func TestSetsFail(t *testing.T) {
	for _, n := range []int64{-1, 0, 61, 62, 64, 1000, 1 << 32, math.MaxInt64, math.MinInt64} {
		for _, set := range [][]int64{nil, {}, {0}, {0, 1}, valuesFrom(0, 1, 60), valuesFrom(0, 1, 61)} {
			got, ok := impl.RankSet(n, set)
			expectFail(t, fmt.Sprint("RankSet ", n, " ", set), got, ok)
		}
		for _, size := range []int64{-1, 0, 1, 2, 60, 61, n, n - 1} {
			for _, rank := range []int64{-1, 0, 1} {
				got, ok := impl.SetAt(n, size, rank)
				expectNoList(t, fmt.Sprint("SetAt ", n, " ", size, " ", rank), got, ok)
			}
		}
	}
	for _, n := range []int64{1, 2, 4, 30, 60} {
		for _, set := range [][]int64{{n}, {-1}, {0, n}, {-1, 0}, {0, 0}, {1, 0}, {n - 1, n - 1}, {n - 1, n}, {n - 1, 0, n - 1}, {math.MinInt64, 0}, {0, math.MaxInt64}, {math.MaxInt64}, {math.MinInt64}, valuesFrom(0, 1, int(n+1)), make([]int64, n+1), make([]int64, 1000)} {
			got, ok := impl.RankSet(n, set)
			expectFail(t, fmt.Sprint("RankSet ", n, " ", set), got, ok)
		}
		for _, size := range []int64{-1, n + 1, n + 2, 61, 64, math.MaxInt64, math.MinInt64} {
			for _, rank := range []int64{-1, 0, 1, math.MaxInt64, math.MinInt64} {
				got, ok := impl.SetAt(n, size, rank)
				expectNoList(t, fmt.Sprint("SetAt ", n, " ", size, " ", rank), got, ok)
			}
		}
	}
}

// A set that is not increasing is none, wherever it is not.
func TestUnorderedSetsFail(t *testing.T) {
	d := draws(714)
	for n := int64(2); n <= 60; n++ {
		set := drawnSet(n, 2+d.below(n-1), &d)
		for i := range set[1:] {
			equal, exchanged := slices.Clone(set), slices.Clone(set)
			equal[i] = equal[i+1]
			exchanged[i], exchanged[i+1] = exchanged[i+1], exchanged[i]
			for _, wrong := range [][]int64{equal, exchanged} {
				got, ok := impl.RankSet(n, wrong)
				expectFail(t, fmt.Sprint("RankSet ", n, " ", wrong), got, ok)
			}
		}
	}
}

func TestSampleExamples(t *testing.T) {
	got, ok := impl.ReservoirBy(2, []int64{0, 3, 1})
	expectList(t, "ReservoirBy", got, ok, []int64{2, 4})
	got, ok = impl.SampleBy(4, []int64{1, 1})
	expectList(t, "SampleBy", got, ok, []int64{1, 3})
	got, ok = impl.SampleBy(4, []int64{3, 0})
	expectNoList(t, "SampleBy", got, ok)
	checkSet(t, 4, []int64{1, 3}, 4)
}
