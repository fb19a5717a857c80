package tests

import (
	"fmt"
	"math"
	"math/big"
	"slices"
	"testing"

	"loop.example/g01121/impl"
)

// walkOf returns the walk with a row of weights for each place.
func walkOf(rows ...[]int64) impl.Walk {
	w := impl.Walk{}
	for _, weights := range rows {
		w.Rows = append(w.Rows, chancesOf(weights...))
	}
	return w
}

// allWalks returns all walks whose chances are multiples of 1 divided by a
// total, or every so many of them.
func allWalks(places int, total int64, every int) []impl.Walk {
	rows := listsWithSum(places, total)
	var walks []impl.Walk
	for i, choices := range listsUpTo(repeated(int64(len(rows)-1), places)) {
		if i%every != 0 {
			continue
		}
		var weights [][]int64
		for _, choice := range choices {
			weights = append(weights, rows[choice])
		}
		walks = append(walks, walkOf(weights...))
	}
	return walks
}

// leadingTo returns the walk that goes from each place to just one.
func leadingTo(next ...int64) impl.Walk {
	w := impl.Walk{}
	for _, place := range next {
		w.Rows = append(w.Rows, certain(int(place), len(next)))
	}
	return w
}

// drawnWalk returns a walk with as many ways from each place as some, or fewer.
func drawnWalk(places int, ways, most int64, d *draws) impl.Walk {
	w := impl.Walk{}
	for range places {
		weights := make([]int64, places)
		for range ways {
			weights[d.below(int64(places))] += 1 + d.below(most)
		}
		w.Rows = append(w.Rows, chancesOf(weights...))
	}
	return w
}

// bigWalk returns a walk with large prime numbers in its denominators.
func bigWalk(places int) impl.Walk {
	w := impl.Walk{}
	row := tiltedChances(places)
	for place := range places {
		w.Rows = append(w.Rows, turned(row, place))
	}
	return w
}

// balancedWalk returns a walk which leads to each place as often as from it,
// with large prime numbers in its denominators. Equal chances do not change.
func balancedWalk(places int) impl.Walk {
	primes := primesUpTo(maxPart, places/2)
	w := impl.Walk{}
	for place := range places {
		row := repeated(part(0, 1), places)
		row[place] = part(1, 1)
		if pair := place / 2; pair < len(primes) {
			row[place], row[place^1] = part(1, primes[pair]), part(primes[pair]-1, primes[pair])
		}
		w.Rows = append(w.Rows, row)
	}
	return w
}

// absorbing is a game in which one of two ends is reached, and never left.
func absorbing(places int) impl.Walk {
	w := impl.Walk{}
	for place := range places {
		weights := make([]int64, places)
		if place == 0 || place == places-1 {
			weights[place] = 1
		} else {
			weights[place-1], weights[place+1] = 1, 2
		}
		w.Rows = append(w.Rows, chancesOf(weights...))
	}
	return w
}

// smallWalks has all walks of one, two and three places with some chances, all
// or many certain ones of up to six, and every seventh with four places.
func smallWalks() []impl.Walk {
	return slices.Concat(
		allWalks(1, 1, 1), allWalks(2, 3, 1), allWalks(3, 2, 1), allWalks(3, 3, 7), allWalks(4, 1, 1), allWalks(4, 2, 41),
		allWalks(5, 1, 13), allWalks(6, 1, 211),
	)
}

func otherWalks() []impl.Walk {
	d := draws(911)
	walks := []impl.Walk{
		leadingTo(1, 2, 3, 4, 5, 0), leadingTo(1, 2, 0, 4, 5, 3), leadingTo(1, 0, 3, 2, 5, 4), leadingTo(0, 1, 2, 3, 4, 5), leadingTo(1, 2, 3, 4, 5, 5), leadingTo(0, 0, 0, 0, 0, 0), leadingTo(3, 3, 3, 4, 3, 5),
		walkOf([]int64{1, maxPart - 1}, []int64{maxPart - 1, 1}), walkOf([]int64{maxPart - 1, 1}, []int64{1, maxPart - 1}), walkOf([]int64{maxPart - 1, 1}, []int64{1, 1}), walkOf([]int64{1, 0}, []int64{1, maxPart - 1}),
		walkOf([]int64{0, 1, 2, 0}, []int64{0, 1, 0, 1}, []int64{0, 0, 1, 0}, []int64{0, 1, 0, 0}), walkOf([]int64{1, 1, 1}, []int64{0, 1, 0}, []int64{0, 0, 1}),
	}
	for places := 1; places <= 6; places++ {
		walks = append(walks, bigWalk(places), balancedWalk(places), absorbing(places))
		for _, ways := range []int64{1, 1, 2, 2, 3, 12} {
			for _, most := range []int64{1, 5, 1000000007} {
				walks = append(walks, drawnWalk(places, ways, most, &d))
			}
		}
	}
	return walks
}

func someWalks() []impl.Walk { return append(smallWalks(), otherWalks()...) }

// wrongWalks returns walks that are not valid, nearly all for one reason.
func wrongWalks() []impl.Walk {
	walks := []impl.Walk{{}, {Rows: [][]impl.Fraction{}}, {Rows: [][]impl.Fraction{nil}}, leadingTo(1, 2, 3, 4, 5, 6, 0), leadingTo(make([]int64, 16)...), leadingTo(make([]int64, 17)...)}
	for places := 1; places <= 6; places++ {
		for place := range places {
			with := func(row []impl.Fraction) impl.Walk {
				w := bigWalk(places)
				w.Rows[place] = row
				return w
			}
			walks = append(walks, with(nil), with(certain(0, places+1)), with(append(certain(0, places), part(0, 1))))
			if places > 1 {
				walks = append(walks, with(certain(0, places-1)))
			}
			for _, row := range wrongChances(places) {
				walks = append(walks, with(row))
			}
		}
		w := bigWalk(places)
		walks = append(walks, impl.Walk{Rows: w.Rows[1:]}, impl.Walk{Rows: append(slices.Clone(w.Rows), w.Rows[0])})
	}
	return walks
}

func TestValidWalks(t *testing.T) {
	for _, w := range someWalks() {
		if !impl.ValidWalk(w) {
			t.Errorf("%v is not valid", w)
		}
	}
	for _, w := range wrongWalks() {
		if impl.ValidWalk(w) {
			t.Errorf("%v is valid", w)
		}
	}
}

func TestWrongWalks(t *testing.T) {
	for _, w := range wrongWalks() {
		what := fmt.Sprint(w)
		for _, places := range []int{len(w.Rows), 1, 2, 3} {
			if !(1 <= places && places <= 16) {
				continue
			}
			next, ok := impl.StepWalk(w, certain(0, places))
			expectNoFractions(t, "StepWalk "+what, next, ok)
			for _, steps := range []int64{0, 1, 30} {
				next, ok := impl.RunWalk(w, certain(0, places), steps)
				expectNoFractions(t, "RunWalk "+what, next, ok)
			}
		}
		contraction, ok := impl.ContractionOf(w)
		expectFail(t, "ContractionOf "+what, contraction, ok)
		checkNotSettled(t, w)
		for _, place := range []int64{0, 1, -1} {
			times, ok := impl.HittingTimes(w, place)
			expectNoFractions(t, "HittingTimes "+what, times, ok)
		}
	}
}

// checkNotSettled requires that nothing is told of settled chances.
func checkNotSettled(t *testing.T, w impl.Walk) {
	t.Helper()
	settled, ok := impl.SettledOf(w)
	expectNoFractions(t, fmt.Sprint("SettledOf ", w), settled, ok)
	if impl.IsReversible(w) {
		t.Errorf("%v is reversible", w)
	}
	for _, near := range []impl.Fraction{part(0, 1), part(1, 2), part(1, 1), part(2, 1), part(maxPart, 1)} {
		steps, ok := impl.MixingSteps(w, near)
		expectFail(t, fmt.Sprint("MixingSteps ", w, near), steps, ok)
	}
}

// slowAfter returns the chances after a step.
func slowAfter(w impl.Walk, p []*big.Rat) []*big.Rat {
	var next []*big.Rat
	for k := range w.Rows {
		sum := new(big.Rat)
		for i := range w.Rows {
			sum.Add(sum, new(big.Rat).Mul(p[i], rat(w.Rows[i][k])))
		}
		next = append(next, sum)
	}
	return next
}

func slowContraction(w impl.Walk) *big.Rat {
	most := new(big.Rat)
	for _, row := range w.Rows {
		for _, other := range w.Rows {
			if distance := slowDistance(ratsOf(row), ratsOf(other)); distance.Cmp(most) > 0 {
				most = distance
			}
		}
	}
	return most
}

func TestWalkExamples(t *testing.T) {
	w := walkOf([]int64{1, 1}, []int64{1, 0})
	settled, ok := impl.SettledOf(w)
	expectRats(t, "SettledOf", settled, ok, ratsOf(chancesOf(2, 1)))
	times, ok := impl.HittingTimes(w, 1)
	expectRats(t, "HittingTimes 1", times, ok, []*big.Rat{big.NewRat(2, 1), new(big.Rat)})
	times, ok = impl.HittingTimes(w, 0)
	expectRats(t, "HittingTimes 0", times, ok, []*big.Rat{new(big.Rat), big.NewRat(1, 1)})
	next, ok := impl.StepWalk(w, chancesOf(1, 2))
	expectRats(t, "StepWalk", next, ok, ratsOf(chancesOf(5, 1)))
	next, ok = impl.RunWalk(w, chancesOf(1, 2), 2)
	expectRats(t, "RunWalk 2", next, ok, ratsOf(chancesOf(7, 5)))
	contraction, ok := impl.ContractionOf(w)
	expect(t, "ContractionOf", contraction, ok, part(1, 2))
	contraction, ok = impl.ContractionOf(walkOf([]int64{1, 2, 3}, []int64{1, 2, 3}, []int64{3, 2, 1}))
	expect(t, "ContractionOf with equal rows", contraction, ok, part(1, 3))
}

// Promise 10: a step makes distances at most as great as the contraction tells,
// and as great as that for some two places.
func TestStepsContract(t *testing.T) {
	d := draws(912)
	for _, w := range someWalks() {
		places := len(w.Rows)
		most := slowContraction(w)
		contraction, ok := impl.ContractionOf(w)
		expectRat(t, fmt.Sprint("ContractionOf ", w), contraction, ok, most)
		lists := [][]impl.Fraction{certain(0, places), certain(places-1, places), chancesOf(drawnWeights(places, 20, &d)...), chancesOf(drawnWeights(places, 1000000007, &d)...)}
		var after [][]*big.Rat
		for _, p := range lists {
			want := slowAfter(w, ratsOf(p))
			after = append(after, want)
			next, ok := impl.StepWalk(w, p)
			expectRats(t, fmt.Sprint("StepWalk ", w, p), next, ok, want)
			again, ok := impl.RunWalk(w, p, 1)
			expectRats(t, fmt.Sprint("RunWalk ", w, p), again, ok, want)
		}
		for i, p := range lists {
			for k, q := range lists {
				before := slowDistance(ratsOf(p), ratsOf(q))
				if slowDistance(after[i], after[k]).Cmp(before.Mul(before, most)) > 0 {
					t.Errorf("a step of %v makes the distance of %v and %v greater than %v times", w, p, q, most)
				}
			}
		}
	}
}

// checkRun compares each of the greatest number of steps with numbers of any
// size, and returns how many of them lead to valid fractions.
func checkRun(t *testing.T, w impl.Walk, p []impl.Fraction) int {
	t.Helper()
	now, valid := ratsOf(p), 0
	for steps := range int64(31) {
		after, ok := impl.RunWalk(w, p, steps)
		if expectRats(t, fmt.Sprint("RunWalk ", w, p, steps), after, ok, now) {
			valid++
		}
		now = slowAfter(w, now)
	}
	return valid
}

func TestRunWalks(t *testing.T) {
	d := draws(913)
	for i, w := range smallWalks() {
		if i%5 == 0 {
			checkRun(t, w, chancesOf(drawnWeights(len(w.Rows), 6, &d)...))
		}
	}
	for i, w := range otherWalks() {
		checkRun(t, w, certain(i%len(w.Rows), len(w.Rows)))
	}
}

// Chances that no step changes are valid, although the numbers on the way are
// of any size. Others are not valid after two steps, and then never again.
func TestRunsOfAnySize(t *testing.T) {
	for places := 2; places <= 6; places++ {
		w := balancedWalk(places)
		if valid := checkRun(t, w, chancesOf(repeated[int64](1, places)...)); valid != 31 {
			t.Errorf("equal chances are valid after %d steps in %v", valid, w)
		}
		if valid := checkRun(t, w, certain(0, places)); valid != 2 {
			t.Errorf("a certain place is valid after %d steps in %v", valid, w)
		}
	}
	// With half of it given back, each step makes a chance the half of it.
	w := walkOf([]int64{3, 1}, []int64{1, 3})
	after, ok := impl.RunWalk(w, certain(0, 2), 30)
	expectRats(t, "RunWalk", after, ok, []*big.Rat{big.NewRat(1<<30+1, 1<<31), big.NewRat(1<<30-1, 1<<31)})
}

func TestContractionOfAnySize(t *testing.T) {
	primes := primesUpTo(maxPart/4, 2)
	q, p := primes[0], primes[1]
	quarter := part(1, 4)
	first := []impl.Fraction{part(p-4, 4*p), part(p-4, 4*p), part(p+8, 4*p), quarter}
	second := []impl.Fraction{part(q+4, 4*q), part(q-4, 4*q), quarter, quarter}
	// The greatest distance is 2/p, and what is between is not valid.
	contraction, ok := impl.ContractionOf(impl.Walk{Rows: [][]impl.Fraction{second, first, second, first}})
	expect(t, "ContractionOf", contraction, ok, part(2, p))
	// The greatest distance is valid, while the first one is not.
	tilted := []impl.Fraction{part(p+4, 4*p), part(p-4, 4*p), quarter, quarter}
	contraction, ok = impl.ContractionOf(impl.Walk{Rows: [][]impl.Fraction{tilted, second, certain(2, 4), certain(2, 4)}})
	expect(t, "ContractionOf", contraction, ok, part(3, 4))
	// The greatest distance is not valid.
	w := impl.Walk{Rows: [][]impl.Fraction{{part(p+2, 2*p), part(p-2, 2*p)}, {part(q-2, 2*q), part(q+2, 2*q)}}}
	contraction, ok = impl.ContractionOf(w)
	expectFail(t, "ContractionOf", contraction, ok)
}

func TestWrongRuns(t *testing.T) {
	for _, places := range []int{1, 2, 5, 6} {
		w := bigWalk(places)
		for _, steps := range []int64{-1, 31, 32, math.MinInt64, math.MaxInt64} {
			after, ok := impl.RunWalk(w, certain(0, places), steps)
			expectNoFractions(t, fmt.Sprint("RunWalk ", steps), after, ok)
		}
		lists := append(wrongChances(places), nil, certain(0, places+1), certain(0, 16), certain(0, 17))
		if places > 1 {
			lists = append(lists, certain(0, places-1))
		}
		for _, p := range lists {
			next, ok := impl.StepWalk(w, p)
			expectNoFractions(t, fmt.Sprint("StepWalk ", p), next, ok)
			for _, steps := range []int64{0, 1, 30} {
				after, ok := impl.RunWalk(w, p, steps)
				expectNoFractions(t, fmt.Sprint("RunWalk ", p, steps), after, ok)
			}
		}
	}
}
