package tests

import (
	"fmt"
	"math"
	"math/big"
	"testing"

	"loop.example/g01121/impl"
)

// solved returns the only solution of equations, if there is just one. The last
// number of each equation is what the others, times the solution, add up to.
func solved(equations [][]*big.Rat, unknowns int) ([]*big.Rat, bool) {
	for column := range unknowns {
		pivot := column
		for pivot < len(equations) && equations[pivot][column].Sign() == 0 {
			pivot++
		}
		if pivot == len(equations) {
			return nil, false
		}
		equations[column], equations[pivot] = equations[pivot], equations[column]
		divisor := new(big.Rat).Set(equations[column][column])
		for _, x := range equations[column] {
			x.Quo(x, divisor)
		}
		for i, equation := range equations {
			if i == column {
				continue
			}
			times := new(big.Rat).Set(equation[column])
			for k, x := range equation {
				x.Sub(x, new(big.Rat).Mul(times, equations[column][k]))
			}
		}
	}
	var solution []*big.Rat
	for i, equation := range equations {
		if i < unknowns {
			solution = append(solution, equation[unknowns])
		} else if equation[unknowns].Sign() != 0 {
			return nil, false
		}
	}
	return solution, true
}

// slowSettled solves the equations for chances that no step changes, whose sum
// is 1.
func slowSettled(w impl.Walk) ([]*big.Rat, bool) {
	places := len(w.Rows)
	var equations [][]*big.Rat
	for k := range places {
		var equation []*big.Rat
		for i := range places {
			x := rat(w.Rows[i][k])
			if i == k {
				x.Sub(x, big.NewRat(1, 1))
			}
			equation = append(equation, x)
		}
		equations = append(equations, append(equation, new(big.Rat)))
	}
	var sum []*big.Rat
	for range places + 1 {
		sum = append(sum, big.NewRat(1, 1))
	}
	return solved(append(equations, sum), places)
}

// comesTo reports for each place whether a walk from there can come to a goal.
func comesTo(w impl.Walk, goal int) []bool {
	comes := make([]bool, len(w.Rows))
	comes[goal] = true
	for range w.Rows {
		for i, row := range w.Rows {
			for k, chance := range row {
				comes[i] = comes[i] || chance.Num > 0 && comes[k]
			}
		}
	}
	return comes
}

// slowTimes solves the equations for the times until a walk comes to a goal, if
// it does from all places.
func slowTimes(w impl.Walk, goal int) ([]*big.Rat, bool) {
	var equations [][]*big.Rat
	for i, comes := range comesTo(w, goal) {
		if !comes {
			return nil, false
		}
		var equation []*big.Rat
		for k, chance := range w.Rows[i] {
			x := new(big.Rat)
			if i != goal {
				x.Neg(rat(chance))
			}
			if k == i {
				x.Add(x, big.NewRat(1, 1))
			}
			equation = append(equation, x)
		}
		time := big.NewRat(1, 1)
		if i == goal {
			time = new(big.Rat)
		}
		equations = append(equations, append(equation, time))
	}
	return solved(equations, len(w.Rows))
}

func slowReversible(w impl.Walk, settled []*big.Rat) bool {
	for i, row := range w.Rows {
		for k, chance := range row {
			forth := new(big.Rat).Mul(settled[i], rat(chance))
			if forth.Cmp(new(big.Rat).Mul(settled[k], rat(w.Rows[k][i]))) != 0 {
				return false
			}
		}
	}
	return true
}

// slowFarthest returns, for each number of steps from 0 to 31, the greatest
// distance from settled chances.
func slowFarthest(w impl.Walk, settled []*big.Rat) []*big.Rat {
	var now [][]*big.Rat
	for place := range w.Rows {
		now = append(now, ratsOf(certain(place, len(w.Rows))))
	}
	var farthest []*big.Rat
	for range 32 {
		most := new(big.Rat)
		for i, p := range now {
			if distance := slowDistance(p, settled); distance.Cmp(most) > 0 {
				most = distance
			}
			now[i] = slowAfter(w, p)
		}
		farthest = append(farthest, most)
	}
	return farthest
}

// checkSettled compares settled chances with those that equations tell, and
// returns them if they are valid.
func checkSettled(t *testing.T, w impl.Walk) ([]*big.Rat, bool) {
	t.Helper()
	want, only := slowSettled(w)
	if !only {
		checkNotSettled(t, w)
		return nil, false
	}
	settled, ok := impl.SettledOf(w)
	if !expectRats(t, fmt.Sprint("SettledOf ", w), settled, ok, want) {
		checkNotSettled(t, w)
		return nil, false
	}
	if impl.IsReversible(w) != slowReversible(w, want) {
		t.Errorf("IsReversible %v: got %v", w, !slowReversible(w, want))
	}
	return want, true
}

// Settled chances are those that no step changes, and there are none where
// several lists do not change.
func TestSettledChances(t *testing.T) {
	counts := map[[2]bool]int{}
	for _, w := range someWalks() {
		settled, ok := checkSettled(t, w)
		reversible := impl.IsReversible(w)
		counts[[2]bool{ok, reversible}]++
		if !ok {
			continue
		}
		list, _ := impl.SettledOf(w)
		for _, steps := range []int64{0, 1, 2, 30} {
			after, ok := impl.RunWalk(w, list, steps)
			expectRats(t, fmt.Sprint("RunWalk ", w, list, steps), after, ok, settled)
		}
	}
	if counts[[2]bool{true, true}] < 50 || counts[[2]bool{true, false}] < 50 || counts[[2]bool{false, false}] < 50 {
		t.Errorf("there are too few walks of a kind: %v", counts)
	}
}

// Walks with several settled chances, told by hand: the mixed ones of two of
// them are settled, too.
func TestSeveralSettledChances(t *testing.T) {
	walks := []impl.Walk{
		leadingTo(0, 1), leadingTo(0, 1, 2, 3, 4, 5), leadingTo(1, 0, 2), leadingTo(0, 2, 1), leadingTo(1, 0, 3, 2, 5, 4), leadingTo(1, 2, 0, 4, 5, 3), leadingTo(0, 0, 3, 3),
		absorbing(3), absorbing(4), absorbing(5), absorbing(6),
		walkOf([]int64{1, 1, 1}, []int64{0, 1, 0}, []int64{0, 0, 1}), walkOf([]int64{0, 1, 0}, []int64{1, 0, 0}, []int64{0, 0, 1}),
		walkOf([]int64{1, 2, 0, 0}, []int64{2, 1, 0, 0}, []int64{0, 0, 3, 4}, []int64{0, 0, 1, 0}), walkOf([]int64{1, 0, 3, 0}, []int64{0, 1, 0, 1}, []int64{1, 0, 3, 0}, []int64{0, 5, 0, 1}),
		walkOf([]int64{1, 1, 1, 1, 1, 1}, []int64{0, 0, 1, 0, 0, 0}, []int64{0, 1, 0, 0, 0, 0}, []int64{0, 0, 0, 1, 1, 0}, []int64{0, 0, 0, 1, 1, 0}, []int64{1, 0, 0, 0, 0, 0}),
		walkOf([]int64{1, 0, 0}, []int64{0, 1, 0}, []int64{1, maxPart - 1, 0}), walkOf([]int64{1, 0, 0}, []int64{1, maxPart - 2, 1}, []int64{0, 0, 1}),
	}
	for _, w := range walks {
		if _, only := slowSettled(w); only || !impl.ValidWalk(w) {
			t.Errorf("%v has only one list of settled chances", w)
		}
		checkNotSettled(t, w)
	}
}

// Places that are left for ever have no settled chance, and no way back is
// needed between them.
func TestPlacesThatAreLeft(t *testing.T) {
	for _, settled := range []struct {
		walk       impl.Walk
		want       []impl.Fraction
		reversible bool
	}{
		{walkOf([]int64{7}), chancesOf(1), true},
		{leadingTo(0, 0), chancesOf(1, 0), true},
		{leadingTo(1, 1), chancesOf(0, 1), true},
		{leadingTo(1, 2, 3, 4, 5, 5), chancesOf(0, 0, 0, 0, 0, 1), true},
		{leadingTo(5, 0, 1, 2, 3, 5), chancesOf(0, 0, 0, 0, 0, 1), true},
		{leadingTo(1, 2, 3, 4, 5, 4), chancesOf(0, 0, 0, 0, 1, 1), true},
		{leadingTo(1, 2, 3, 4, 5, 3), chancesOf(0, 0, 0, 1, 1, 1), false},
		{leadingTo(1, 2, 3, 4, 5, 0), chancesOf(1, 1, 1, 1, 1, 1), false},
		{leadingTo(1, 0), chancesOf(1, 1), true},
		{walkOf([]int64{maxPart - 1, 1}, []int64{0, 1}), chancesOf(0, 1), true},
		{walkOf([]int64{0, 1, 1}, []int64{1, 0, 1}, []int64{0, 0, 1}), chancesOf(0, 0, 1), true},
		{walkOf([]int64{1, 1, 0}, []int64{1, 1, 0}, []int64{0, 1, 5}), chancesOf(1, 1, 0), true},
		{walkOf([]int64{0, 1, 0}, []int64{1, 0, 2}, []int64{0, 1, 0}), chancesOf(1, 3, 2), true},
	} {
		list, ok := impl.SettledOf(settled.walk)
		expectRats(t, fmt.Sprint("SettledOf ", settled.walk), list, ok, ratsOf(settled.want))
		if impl.IsReversible(settled.walk) != settled.reversible {
			t.Errorf("IsReversible %v: got %v", settled.walk, !settled.reversible)
		}
		checkSettled(t, settled.walk)
	}
}

// A walk is not settled where its chances are no valid fractions, though it has
// settled chances, and would be reversible and near to them at once.
func TestSettledChancesOfAnySize(t *testing.T) {
	primes := primesUpTo(2000000000, 2)
	q, p := primes[0], primes[1]
	w := walkOf([]int64{p - 999999937, 999999937}, []int64{1000000009, q - 1000000009})
	if settled, only := slowSettled(w); !only || !slowReversible(w, settled) {
		t.Errorf("%v is not settled", w)
	}
	checkNotSettled(t, w)
	checkSettled(t, w)
	// One divided by these numbers adds up to small parts.
	w = walkOf([]int64{p - 1, 1}, []int64{1, q - 1})
	settled, ok := impl.SettledOf(w)
	expectRats(t, "SettledOf", settled, ok, ratsOf(chancesOf(p, q)))
	// The denominators of the rows are of any size together.
	for places := 2; places <= 6; places++ {
		settled, ok := impl.SettledOf(bigWalk(places))
		expectRats(t, "SettledOf", settled, ok, evenRats(places))
	}
	// The greatest parts that are valid.
	w = walkOf([]int64{maxPart - 2, 1}, []int64{maxPart - 2, 1})
	settled, ok = impl.SettledOf(w)
	expectRats(t, "SettledOf", settled, ok, ratsOf(w.Rows[0]))
	w = impl.Walk{Rows: [][]impl.Fraction{{part(maxPart-1, maxPart), part(1, maxPart)}, {part(1, 1), part(0, 1)}}}
	checkSettled(t, w)
	checkNotSettled(t, w)
	// Of three chances, only the second one is not valid: the half of a row's.
	w = walkOf([]int64{0, 1, maxPart - 2}, []int64{1, 0, 0}, []int64{1, 0, 0})
	checkSettled(t, w)
	checkNotSettled(t, w)
}

// checkTimes compares the times until a walk comes to each place with those
// that equations tell.
func checkTimes(t *testing.T, w impl.Walk) (told, failed int) {
	t.Helper()
	for goal := range w.Rows {
		times, ok := impl.HittingTimes(w, int64(goal))
		what := fmt.Sprint("HittingTimes ", w, goal)
		want, comes := slowTimes(w, goal)
		if comes && expectRats(t, what, times, ok, want) {
			told++
		} else {
			expectNoFractions(t, what, times, ok)
			failed++
		}
	}
	for _, place := range []int64{-1, int64(len(w.Rows)), 6, math.MinInt64, math.MaxInt64} {
		times, ok := impl.HittingTimes(w, place)
		expectNoFractions(t, fmt.Sprint("HittingTimes ", w, place), times, ok)
	}
	return told, failed
}

func TestHittingTimes(t *testing.T) {
	told, failed := 0, 0
	for _, w := range someWalks() {
		some, others := checkTimes(t, w)
		told, failed = told+some, failed+others
	}
	if told < 500 || failed < 500 {
		t.Errorf("%d times are told, and %d are not", told, failed)
	}
}

func TestHittingTimesByHand(t *testing.T) {
	whole := func(numbers ...int64) []*big.Rat {
		var list []*big.Rat
		for _, n := range numbers {
			list = append(list, big.NewRat(n, 1))
		}
		return list
	}
	line := walkOf([]int64{0, 1, 0, 0}, []int64{1, 0, 1, 0}, []int64{0, 1, 0, 1}, []int64{0, 0, 1, 0})
	for _, hit := range []struct {
		walk  impl.Walk
		place int64
		want  []*big.Rat
	}{
		{walkOf([]int64{1}), 0, whole(0)},
		{leadingTo(1, 2, 3, 4, 5, 0), 2, whole(2, 1, 0, 5, 4, 3)},
		{leadingTo(1, 1), 1, whole(1, 0)},
		{line, 3, whole(9, 8, 5, 0)}, {line, 0, whole(0, 5, 8, 9)}, {line, 1, whole(1, 0, 3, 4)},
		{walkOf([]int64{maxPart - 1, 1}, []int64{1, 0}), 1, whole(maxPart, 0)},
		// The goal is never left, and one place is never come back to.
		{walkOf([]int64{0, 1, 1}, []int64{0, 1, 1}, []int64{0, 0, 1}), 2, whole(2, 2, 0)},
	} {
		times, ok := impl.HittingTimes(hit.walk, hit.place)
		expectRats(t, fmt.Sprint("HittingTimes ", hit.walk, hit.place), times, ok, hit.want)
	}
	for _, missed := range []struct {
		walk  impl.Walk
		place int64
	}{
		{leadingTo(1, 1), 0}, {leadingTo(0, 1), 0}, {leadingTo(0, 1), 1}, {absorbing(5), 0}, {absorbing(5), 2}, {absorbing(5), 4},
		// From one place, the goal is reached only in some ways.
		{walkOf([]int64{1, 1, 1}, []int64{0, 1, 0}, []int64{0, 0, 1}), 1},
		{walkOf([]int64{0, 1, 1}, []int64{1, 0, 1}, []int64{0, 0, 1}), 0},
		// A time of one more than the greatest part is no valid fraction.
		{walkOf([]int64{maxPart - 1, 1, 0}, []int64{0, 0, 1}, []int64{1, 0, 0}), 2},
	} {
		times, ok := impl.HittingTimes(missed.walk, missed.place)
		expectNoFractions(t, fmt.Sprint("HittingTimes ", missed.walk, missed.place), times, ok)
	}
}

// checkMixing compares the numbers of steps with all distances, for what is
// just near enough after each step, and for a bit less.
func checkMixing(t *testing.T, w impl.Walk, settled []*big.Rat) {
	t.Helper()
	farthest := slowFarthest(w, settled)
	list := []impl.Fraction{part(0, 1), part(1, 1), part(3, 2), part(1, 2), part(1, 4), part(1, 100), part(1, maxPart)}
	for _, far := range farthest {
		for _, less := range []*big.Rat{new(big.Rat), big.NewRat(1, 1<<40)} {
			if near, fits := exact(new(big.Rat).Sub(far, less)); fits {
				list = append(list, near)
			}
		}
	}
	for _, near := range list {
		want := int64(0)
		for want < 31 && farthest[want].Cmp(rat(near)) > 0 {
			want++
		}
		expectMixing(t, w, near, want)
	}
}

func TestMixingSteps(t *testing.T) {
	for i, w := range append(otherWalks(), smallWalks()...) {
		settled, only := slowSettled(w)
		if _, ok := impl.SettledOf(w); ok && only && (i < 200 || i%9 == 0) {
			checkMixing(t, w, settled)
		}
	}
}

// The distance of this walk is 1/2, and becomes the half in each step. It is
// near at the last step, and behind it.
func TestMixingAtTheLastStep(t *testing.T) {
	w := walkOf([]int64{3, 1}, []int64{1, 3})
	for steps := range int64(34) {
		expectMixing(t, w, part(1, 2<<steps), steps)
		expectMixing(t, w, part(1<<20+1, 2<<steps<<20), steps)
		expectMixing(t, w, part(1<<20-1, 2<<steps<<20), steps+1)
	}
}

// expectMixing requires a number of steps, or that it fails for too many.
func expectMixing(t *testing.T, w impl.Walk, near impl.Fraction, want int64) {
	t.Helper()
	what := fmt.Sprint("MixingSteps ", w, near)
	steps, ok := impl.MixingSteps(w, near)
	if want > 30 {
		expectFail(t, what, steps, ok)
	} else {
		expect(t, what, steps, ok, want)
	}
}

func TestMixingByHand(t *testing.T) {
	for _, mixed := range []struct {
		walk  impl.Walk
		near  impl.Fraction
		steps int64
	}{
		{walkOf([]int64{1}), part(0, 1), 0},
		{walkOf([]int64{1, 1}, []int64{1, 0}), part(1, 4), 2},
		{walkOf([]int64{1, 2}, []int64{1, 2}), part(0, 1), 1},
		{walkOf([]int64{1, 2}, []int64{1, 2}), part(2, 3), 0},
		{leadingTo(1, 2, 3, 4, 5, 5), part(0, 1), 5},
		{leadingTo(1, 2, 3, 4, 5, 5), part(maxPart-1, maxPart), 5},
		{leadingTo(1, 2, 3, 4, 5, 5), part(1, 1), 0},
		{leadingTo(1, 2, 3, 4, 5, 5), part(maxPart, maxPart-1), 0},
		{leadingTo(1, 0), part(1, 2), 0},
		{leadingTo(1, 2, 0), part(2, 3), 0},
		{walkOf([]int64{0, 1, 0}, []int64{1, 0, 1}, []int64{0, 1, 0}), part(3, 4), 0},
		{walkOf([]int64{0, 1, 0}, []int64{1, 0, 1}, []int64{0, 1, 0}), part(1, 2), 1},
	} {
		steps, ok := impl.MixingSteps(mixed.walk, mixed.near)
		expect(t, fmt.Sprint("MixingSteps ", mixed.walk, mixed.near), steps, ok, mixed.steps)
	}
	// Walks that alternate come no nearer.
	for _, far := range []struct {
		walk impl.Walk
		near impl.Fraction
	}{
		{leadingTo(1, 0), part(499999999, 1000000000)}, {leadingTo(1, 0), part(0, 1)}, {leadingTo(1, 2, 0), part(1, 2)}, {leadingTo(1, 2, 3, 4, 5, 0), part(5*maxPart/6-1, maxPart)},
		{walkOf([]int64{0, 1, 0}, []int64{1, 0, 1}, []int64{0, 1, 0}), part(49, 100)},
		{walkOf([]int64{maxPart - 1, 1}, []int64{1, maxPart - 1}), part(49, 100)},
	} {
		steps, ok := impl.MixingSteps(far.walk, far.near)
		expectFail(t, fmt.Sprint("MixingSteps ", far.walk, far.near), steps, ok)
	}
}

func TestWrongNear(t *testing.T) {
	for _, w := range []impl.Walk{walkOf([]int64{1}), walkOf([]int64{1, 2}, []int64{1, 2}), bigWalk(6)} {
		for _, near := range []impl.Fraction{
			{}, part(1, 0), part(0, 2), part(2, 4), part(-1, -2), part(1, -2), part(-1, 2), part(-1, 1), part(-1, maxPart), part(-maxPart, 1), part(-maxPart-1, 1),
			part(1, maxPart+1), part(maxPart+1, 1), part(2, 2), part(math.MaxInt64, math.MaxInt64), part(math.MinInt64, math.MinInt64), part(math.MinInt64, 1), part(1, math.MinInt64), part(math.MaxInt64, 1),
		} {
			steps, ok := impl.MixingSteps(w, near)
			expectFail(t, fmt.Sprint("MixingSteps ", w, near), steps, ok)
		}
	}
}
