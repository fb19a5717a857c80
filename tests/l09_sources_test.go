package tests

import (
	"fmt"
	"math"
	"math/big"
	"slices"
	"testing"

	"loop.example/g01121/impl"
)

func ratsOf(p []impl.Fraction) []*big.Rat {
	var list []*big.Rat
	for _, f := range p {
		list = append(list, rat(f))
	}
	return list
}

// expectRats requires a list of numbers, and that it fails if one of them is no
// valid fraction. It reports whether there is such a list.
func expectRats(t *testing.T, what string, got []impl.Fraction, ok bool, want []*big.Rat) bool {
	t.Helper()
	var list []impl.Fraction
	for _, r := range want {
		f, fits := exact(r)
		if !fits {
			expectNoFractions(t, what, got, ok)
			return false
		}
		list = append(list, f)
	}
	if !ok || !slices.Equal(got, list) {
		t.Errorf("%s: got %v and %v, want %v", what, got, ok, list)
	}
	return true
}

func expectNoFractions(t *testing.T, what string, got []impl.Fraction, ok bool) {
	t.Helper()
	if ok || len(got) != 0 {
		t.Errorf("%s: got %v and %v, want it to fail", what, got, ok)
	}
}

// chancesOf returns chances as weights tell, which can be 0.
func chancesOf(weights ...int64) []impl.Fraction {
	return lawOfWeights(nil, weights).Chances
}

func certain(place, count int) []impl.Fraction {
	weights := make([]int64, count)
	weights[place] = 1
	return chancesOf(weights...)
}

// tiltedChances returns chances of which each two, one behind the other, have a
// large prime number of their own in their denominators, and only their sum has
// not. They are more and more apart.
func tiltedChances(count int) []impl.Fraction {
	p := chancesOf(repeated[int64](1, count)...)
	for i, prime := range primesUpTo(maxPart/int64(count), count/2) {
		shift := big.NewRat(int64(i+1), prime)
		shift.Mul(shift, big.NewRat(1, int64(count)))
		p[2*i], _ = exact(new(big.Rat).Sub(rat(p[2*i]), shift))
		p[2*i+1], _ = exact(new(big.Rat).Add(rat(p[2*i+1]), shift))
	}
	return p
}

// turned moves the element at an index to the beginning, and those before it to
// the end.
func turned[T any](list []T, index int) []T {
	return slices.Concat(list[index:], list[:index])
}

// outward takes first the elements with even indices, then the others.
func outward[T any](list []T) []T {
	var even, odd []T
	for i, x := range list {
		if i%2 == 0 {
			even = append(even, x)
		} else {
			odd = append(odd, x)
		}
	}
	return append(even, odd...)
}

// someChances returns lists of a length.
func someChances(count int, d *draws) [][]impl.Fraction {
	tilted := tiltedChances(count)
	lists := [][]impl.Fraction{
		chancesOf(repeated[int64](1, count)...), chancesOf(valuesFrom(1, 1, count)...), certain(0, count), certain(count-1, count), certain(count/2, count),
		tilted, outward(tilted), turned(outward(tilted), count/2), chancesOf(append(repeated[int64](0, count-1), 7)...),
	}
	for _, total := range []int64{1, 2, 3, 5, 16, 100, 1000000} {
		lists = append(lists, chancesOf(drawnWeights(count, total, d)...))
	}
	if count > 1 {
		rest := repeated[int64](0, count)
		rest[0], rest[count-1] = 1, maxPart-1
		lists = append(lists, chancesOf(rest...), steepLaw(valuesFrom(0, 1, count)).Chances)
	}
	if count == 8 {
		crooked, _, _ := crookedLaw(maxPart)
		lists = append(lists, crooked.Chances, outward(crooked.Chances))
	}
	return lists
}

// wrongChances returns lists of a length that are no chances, nearly all for
// one reason.
func wrongChances(count int) [][]impl.Fraction {
	even := chancesOf(repeated[int64](1, count)...)
	with := func(f impl.Fraction, index int) []impl.Fraction {
		list := slices.Clone(even)
		list[index] = f
		return list
	}
	lists := [][]impl.Fraction{repeated(impl.Fraction{}, count), repeated(part(2, 1), count)}
	if count > 1 {
		lists = append(lists, repeated(part(0, 1), count), repeated(part(1, 1), count), repeated(part(1, int64(count)+1), count))
	}
	for _, index := range []int{0, count / 2, count - 1} {
		f := even[index]
		lists = append(lists,
			with(part(2*f.Num, 2*f.Den), index), with(part(-f.Num, -f.Den), index), with(part(-f.Num, f.Den), index), with(part(f.Num, -f.Den), index),
			with(part(1, 0), index), with(part(0, 0), index), with(part(0, 2), index), with(part(1, int64(count)+1), index), with(part(maxPart-1, maxPart), index),
			with(part(maxPart, 1), index), with(part(maxPart+1, 1), index), with(part(1, maxPart+1), index),
			with(part(math.MinInt64, 1), index), with(part(math.MaxInt64, math.MaxInt64), index), with(part(math.MinInt64, math.MinInt64), index), with(part(1, math.MinInt64), index),
		)
	}
	if count > 1 {
		// The sum is 1, but one chance is negative.
		negative := repeated(part(0, 1), count)
		negative[0], negative[count-1] = part(4, 3), part(-1, 3)
		lists = append(lists, negative, turned(negative, 1))
	}
	return lists
}

func slowDistance(p, q []*big.Rat) *big.Rat {
	sum := new(big.Rat)
	for i := range p {
		difference := new(big.Rat).Sub(p[i], q[i])
		sum.Add(sum, difference.Abs(difference))
	}
	return sum.Mul(sum, big.NewRat(1, 2))
}

func evenRats(count int) []*big.Rat {
	var list []*big.Rat
	for range count {
		list = append(list, big.NewRat(1, int64(count)))
	}
	return list
}

func TestLimitsOfWalks(t *testing.T) {
	got := []int64{impl.MaxSourceBits, impl.MaxRows, impl.MaxPlaces, impl.MaxSteps}
	if !slices.Equal(got, []int64{4, 3, 6, 30}) {
		t.Errorf("got %v", got)
	}
}

func TestSourceExamples(t *testing.T) {
	p := chancesOf(1, 1, 0, 0)
	made, ok := impl.ExtractBy([]int64{1}, p)
	expectRats(t, "ExtractBy 1", made, ok, []*big.Rat{big.NewRat(1, 2), big.NewRat(1, 2)})
	made, ok = impl.ExtractBy([]int64{2, 3}, chancesOf(1, 2, 3, 4))
	// The numbers 0, 1, 2 and 3 become 0, 2, 3 and 1.
	expectRats(t, "ExtractBy 2, 3", made, ok, ratsOf(chancesOf(1, 4, 2, 3)))
	made, ok = impl.ExtractBy([]int64{0, 1, 0}, chancesOf(1, 2, 3, 4))
	expectRats(t, "ExtractBy 0, 1, 0", made, ok, ratsOf(chancesOf(2, 0, 3, 0, 0, 0, 0, 0)))
	distance, ok := impl.DistanceOf(chancesOf(1, 1, 0), chancesOf(0, 1, 1))
	expect(t, "DistanceOf", distance, ok, part(1, 2))
	collision, ok := impl.CollisionOf(chancesOf(1, 2, 3, 4))
	expect(t, "CollisionOf", collision, ok, part(3, 10))
	greatest, ok := impl.GreatestOf(chancesOf(1, 4, 3, 4))
	expect(t, "GreatestOf", greatest, ok, part(1, 3))
}

// Promise 10 for all numbers of chances: only 2, 4, 8 and 16 of them are a
// source, while distances are those of any lists.
func TestChancesOfAllLengths(t *testing.T) {
	d := draws(901)
	for count := 1; count <= 17; count++ {
		isSource := count == 2 || count == 4 || count == 8 || count == 16
		lists := someChances(count, &d)
		for _, p := range lists {
			checkSource(t, p, isSource)
			for _, q := range lists {
				distance, ok := impl.DistanceOf(p, q)
				what := fmt.Sprint("DistanceOf ", p, " ", q)
				if count <= 16 {
					expectRat(t, what, distance, ok, slowDistance(ratsOf(p), ratsOf(q)))
				} else {
					expectFail(t, what, distance, ok)
				}
			}
		}
		for _, p := range wrongChances(count) {
			checkSource(t, p, false)
			for _, pair := range [][2][]impl.Fraction{{p, lists[0]}, {lists[0], p}, {p, p}} {
				distance, ok := impl.DistanceOf(pair[0], pair[1])
				expectFail(t, fmt.Sprint("DistanceOf ", pair), distance, ok)
			}
		}
	}
	checkSource(t, nil, false)
	checkSource(t, chancesOf(repeated[int64](1, 32)...), false)
}

// checkSource checks what is told of a source, or of another list.
func checkSource(t *testing.T, p []impl.Fraction, isSource bool) {
	t.Helper()
	if impl.IsSource(p) != isSource {
		t.Errorf("IsSource %v: got %v", p, !isSource)
	}
	greatest, greatestOK := impl.GreatestOf(p)
	collision, collisionOK := impl.CollisionOf(p)
	if !isSource {
		expectFail(t, fmt.Sprint("GreatestOf ", p), greatest, greatestOK)
		expectFail(t, fmt.Sprint("CollisionOf ", p), collision, collisionOK)
		checkNothingExtracted(t, []int64{1}, p)
		checkNoLists(t, 1, p)
		return
	}
	list := ratsOf(p)
	most := slices.MaxFunc(list, (*big.Rat).Cmp)
	squares := new(big.Rat)
	for _, r := range list {
		squares.Add(squares, new(big.Rat).Mul(r, r))
	}
	expectRat(t, fmt.Sprint("GreatestOf ", p), greatest, greatestOK, most)
	expectRat(t, fmt.Sprint("CollisionOf ", p), collision, collisionOK, squares)
}

func checkNothingExtracted(t *testing.T, rows []int64, p []impl.Fraction) {
	t.Helper()
	made, ok := impl.ExtractBy(rows, p)
	expectNoFractions(t, fmt.Sprint("ExtractBy ", rows, p), made, ok)
	distance, ok := impl.ExtractDistance(rows, p)
	expectFail(t, fmt.Sprint("ExtractDistance ", rows, p), distance, ok)
}

func checkNoLists(t *testing.T, count int64, p []impl.Fraction) {
	t.Helper()
	average, ok := impl.AverageDistance(count, p)
	expectFail(t, fmt.Sprint("AverageDistance ", count, p), average, ok)
	best, least, ok := impl.BestRows(count, p)
	expectNoList(t, fmt.Sprint("BestRows ", count, p), best, ok)
	expectFail(t, fmt.Sprint("BestRows ", count, p), least, ok)
}

func TestDistancesOfOtherLengths(t *testing.T) {
	for first := 1; first <= 17; first++ {
		for second := 1; second <= 17; second++ {
			distance, ok := impl.DistanceOf(certain(0, first), certain(0, second))
			if first == second && first <= 16 {
				expect(t, fmt.Sprint("DistanceOf with ", first), distance, ok, part(0, 1))
			} else {
				expectFail(t, fmt.Sprint("DistanceOf with ", first, " and ", second), distance, ok)
			}
		}
	}
	distance, ok := impl.DistanceOf(nil, nil)
	expectFail(t, "DistanceOf nothing", distance, ok)
}

// Sums on the way are not valid fractions here.
func TestDistanceOfAnySize(t *testing.T) {
	primes := primesUpTo(maxPart/8, 2)
	q, p := primes[0], primes[1]
	quarter := part(1, 4)
	first := []impl.Fraction{part(p-4, 4*p), part(p-4, 4*p), part(p+8, 4*p), quarter}
	second := []impl.Fraction{part(q+4, 4*q), part(q-4, 4*q), quarter, quarter}
	for _, order := range allOrders(4) {
		var a, b []impl.Fraction
		for _, i := range order {
			a, b = append(a, first[i]), append(b, second[i])
		}
		distance, ok := impl.DistanceOf(a, b)
		expect(t, fmt.Sprint("DistanceOf ", a, b), distance, ok, part(2, p))
	}
	distance, ok := impl.DistanceOf(chancesOf(p+4, p-4), chancesOf(q+4, q-4))
	expectFail(t, "DistanceOf two primes", distance, ok)
}

// The squares of these chances have the square of a prime number in their
// denominators, but a root of unity makes their sum a multiple of the prime.
func TestCollisionOfAnySize(t *testing.T) {
	for _, q := range primesUpTo(maxPart, 20) {
		if q%3 != 1 {
			continue
		}
		modulus, root := big.NewInt(q), big.NewInt(1)
		for base := int64(2); root.Int64() == 1; base++ {
			root.Exp(big.NewInt(base), big.NewInt((q-1)/3), modulus)
		}
		w := root.Int64()
		p := []impl.Fraction{part(1, q), part(w, q), part(0, 1), part(q-1-w, q)}
		collision, ok := impl.CollisionOf(p)
		if !ok || collision.Den != q {
			t.Errorf("CollisionOf %v: got %v and %v", p, collision, ok)
		}
		checkSource(t, p, true)
		checkSource(t, []impl.Fraction{part(1, q), part(q-1, q)}, true)
	}
}

// slowExtract returns what rows make of a source, as the document tells it.
func slowExtract(rows []int64, p []*big.Rat) []*big.Rat {
	var made []*big.Rat
	for range 1 << len(rows) {
		made = append(made, new(big.Rat))
	}
	for x, r := range p {
		number := int64(0)
		for i, mask := range rows {
			number += parityOf(int64(x)&mask) << i
		}
		made[number].Add(made[number], r)
	}
	return made
}

func bitsOfSource(p []impl.Fraction) int64 { return widthBelow(int64(len(p))) }

// rowLists returns all lists of rows, in lexicographic order.
func rowLists(count int64, p []impl.Fraction) [][]int64 {
	return listsUpTo(repeated(int64(len(p)-1), int(count)))
}

// extractedSources has sources for which all lists of rows are tried: for two
// bits, all with multiples of a sixth.
func extractedSources() [][]impl.Fraction {
	d := draws(902)
	var list [][]impl.Fraction
	for _, weights := range listsWithSum(4, 6) {
		list = append(list, chancesOf(weights...))
	}
	for _, count := range []int{2, 4, 8, 16} {
		list = append(list, someChances(count, &d)...)
	}
	return list
}

// checkRows compares what rows make of a source with numbers of any size, and
// returns the distance from equal chances.
func checkRows(t *testing.T, rows []int64, p []impl.Fraction) (distance *big.Rat, fits bool) {
	t.Helper()
	want := slowExtract(rows, ratsOf(p))
	distance = slowDistance(want, evenRats(len(want)))
	made, ok := impl.ExtractBy(rows, p)
	fits = expectRats(t, fmt.Sprint("ExtractBy ", rows, p), made, ok, want)
	got, ok := impl.ExtractDistance(rows, p)
	expectRat(t, fmt.Sprint("ExtractDistance ", rows, p), got, ok, distance)
	return distance, fits
}

// Promise 10: extracted chances are those of their parities, the average is
// that of all lists and as near to even as collisions allow, and no list is
// better than the best one, nor as good and less.
func TestAllLists(t *testing.T) {
	fitting := map[bool]int{}
	for _, p := range extractedSources() {
		for count := int64(1); count <= 3; count++ {
			if count*bitsOfSource(p) > 8 {
				checkNoLists(t, count, p)
				continue
			}
			lists := rowLists(count, p)
			var best []int64
			sum, least := new(big.Rat), new(big.Rat)
			for _, rows := range lists {
				distance, fits := checkRows(t, rows, p)
				fitting[fits]++
				sum.Add(sum, distance)
				if best == nil || distance.Cmp(least) < 0 {
					best, least = rows, distance
				}
			}
			sum.Mul(sum, big.NewRat(1, int64(len(lists))))
			checkListsTogether(t, count, p, sum, best, least)
		}
	}
	if fitting[true] == 0 || fitting[false] == 0 {
		t.Errorf("all lists make valid chances, or none does: %v", fitting)
	}
}

func checkListsTogether(t *testing.T, count int64, p []impl.Fraction, mean *big.Rat, best []int64, least *big.Rat) {
	t.Helper()
	average, ok := impl.AverageDistance(count, p)
	expectRat(t, fmt.Sprint("AverageDistance ", count, p), average, ok, mean)
	rows, distance, ok := impl.BestRows(count, p)
	expectRat(t, fmt.Sprint("BestRows ", count, p), distance, ok, least)
	if _, fits := exact(least); fits {
		expectList(t, fmt.Sprint("BestRows ", count, p), rows, ok, best)
	} else {
		expectNoList(t, fmt.Sprint("BestRows ", count, p), rows, ok)
	}
	collision := new(big.Rat)
	for _, r := range ratsOf(p) {
		collision.Add(collision, new(big.Rat).Mul(r, r))
	}
	most := collision.Mul(collision, big.NewRat(1<<count-1, 1))
	square := new(big.Rat).Mul(mean, mean)
	if square.Mul(square, big.NewRat(4, 1)).Cmp(most) > 0 {
		t.Errorf("AverageDistance %d %v: %v is more than collisions allow", count, p, average)
	}
}

// Three rows for three and for four bits are too many to try them all.
func TestRowsOfLongLists(t *testing.T) {
	d := draws(903)
	for _, p := range extractedSources() {
		bits := bitsOfSource(p)
		if 3*bits <= 8 {
			continue
		}
		for range 25 {
			checkRows(t, []int64{d.below(1 << bits), d.below(1 << bits), d.below(1 << bits)}, p)
		}
		for _, row := range []int64{0, 1<<bits - 1} {
			checkRows(t, repeated(row, 3), p)
		}
	}
}

// Distances of single lists are not valid here, but their average is, and the
// best list is known.
func TestListsOfAnySize(t *testing.T) {
	primes := primesUpTo(maxPart/8, 2)
	q, p := primes[0], primes[1]
	source := []impl.Fraction{part(p+2, 4*p), part(q-2, 4*q), part(q+2, 4*q), part(p-2, 4*p)}
	for _, row := range []int64{1, 2} {
		distance, ok := impl.ExtractDistance([]int64{row}, source)
		expectFail(t, fmt.Sprint("ExtractDistance ", row), distance, ok)
	}
	average, ok := impl.AverageDistance(1, source)
	expect(t, "AverageDistance", average, ok, part(p+2, 8*p))
	rows, distance, ok := impl.BestRows(1, source)
	expectList(t, "BestRows", rows, ok, []int64{3})
	expect(t, "BestRows", distance, ok, part(0, 1))
	// The numbers 0 and 3 have 1/4 more together now, so that the row 3 makes
	// unequal chances, and the best row is 2, whose distance is not valid.
	source = []impl.Fraction{part(3*p+4, 8*p), part(q-4, 8*q), part(q+4, 8*q), part(3*p-4, 8*p)}
	rows, distance, ok = impl.BestRows(1, source)
	expectNoList(t, "BestRows", rows, ok)
	expectFail(t, "BestRows", distance, ok)
	distance, ok = impl.ExtractDistance([]int64{3}, source)
	expect(t, "ExtractDistance 3", distance, ok, part(1, 4))
	made, ok := impl.ExtractBy([]int64{3}, source)
	expectRats(t, "ExtractBy 3", made, ok, ratsOf(chancesOf(3, 1)))
}

// Two of the chances that rows make are not valid here: they are greater than
// 1/4 by 1/p + 1/q and by 1/p - 1/q. The others are less by 1/p, so that the
// distance is 2/p.
func TestDistanceOfWhatIsNotValid(t *testing.T) {
	primes := primesUpTo(maxPart/8, 2)
	q, p := primes[0], primes[1]
	more, less, eighth := part(p+8, 8*p), part(p-8, 8*p), part(1, 8)
	source := []impl.Fraction{more, more, less, less, part(q+8, 8*q), part(q-8, 8*q), eighth, eighth}
	for _, rows := range [][]int64{{1, 2}, {2, 1}, {3, 1}, {2, 3}} {
		what := fmt.Sprint(rows, source)
		made, ok := impl.ExtractBy(rows, source)
		expectNoFractions(t, "ExtractBy "+what, made, ok)
		distance, ok := impl.ExtractDistance(rows, source)
		expect(t, "ExtractDistance "+what, distance, ok, part(2, p))
	}
	for _, rows := range rowLists(2, source) {
		checkRows(t, rows, source)
	}
}

func TestWrongRows(t *testing.T) {
	d := draws(904)
	for _, count := range []int{2, 4, 8, 16} {
		greatest := int64(count) - 1
		for _, p := range someChances(count, &d) {
			for rows := 1; rows <= 3; rows++ {
				for index := range rows {
					for _, wrong := range []int64{-1, greatest + 1, math.MinInt64, math.MaxInt64} {
						list := repeated(greatest, rows)
						checkRows(t, list, p)
						list[index] = wrong
						checkNothingExtracted(t, list, p)
					}
				}
			}
			for _, list := range [][]int64{nil, {}, {0, 0, 0, 0}, repeated(greatest, 4), repeated[int64](1, 64)} {
				checkNothingExtracted(t, list, p)
			}
			for _, number := range []int64{0, -1, 4, 5, 8, math.MinInt64, math.MaxInt64, 1 << 32, 1 << 62} {
				checkNoLists(t, number, p)
			}
		}
	}
}

// Of as many bits as 8, all lists are tried, and of 9 none.
func TestBitsOfLists(t *testing.T) {
	for bits := int64(1); bits <= 4; bits++ {
		p := certain(1, 1<<bits)
		for count := int64(1); count <= 3; count++ {
			if bits*count > 8 {
				checkNoLists(t, count, p)
				continue
			}
			// Whatever the rows make is certain, too.
			wanted := part(1<<count-1, 1<<count)
			average, ok := impl.AverageDistance(count, p)
			expect(t, fmt.Sprint("AverageDistance ", count, p), average, ok, wanted)
			rows, distance, ok := impl.BestRows(count, p)
			expectList(t, fmt.Sprint("BestRows ", count, p), rows, ok, make([]int64, count))
			expect(t, fmt.Sprint("BestRows ", count, p), distance, ok, wanted)
		}
	}
}

// With equal chances, rows make equal ones if they are independent.
func TestRowsOfEqualChances(t *testing.T) {
	for bits := int64(1); bits <= 4; bits++ {
		p := chancesOf(repeated[int64](1, 1<<bits)...)
		for count := int64(1); count <= 3 && count*bits <= 8; count++ {
			rows, distance, ok := impl.BestRows(count, p)
			if count > bits {
				// Equal chances of fewer numbers are the best.
				expect(t, fmt.Sprint("BestRows ", count, p), distance, ok, part(1<<(count-bits)-1, 1<<(count-bits)))
				continue
			}
			expect(t, fmt.Sprint("BestRows ", count, p), distance, ok, part(0, 1))
			expectList(t, fmt.Sprint("BestRows ", count, p), rows, ok, [][]int64{{1}, {1, 2}, {1, 2, 4}}[count-1])
		}
	}
}
