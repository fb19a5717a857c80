package tests

import (
	"fmt"
	"math"
	"slices"
	"testing"

	"loop.example/g01121/impl"
)

const maxAt = int64(impl.MaxAt)

// slowMasks returns, for each index of an output, the bits of the first state
// whose parity is this output. An exclusive or of states outputs that of their
// outputs, so that those of the states with one bit tell all of them.
func slowMasks(l impl.Linear, count int64) []int64 {
	masks := make([]int64, count)
	for i := range l.Width {
		state := int64(1) << i
		for at := range masks {
			next, bit := slowLinear(l, state)
			masks[at] |= bit << i
			state = next
		}
	}
	return masks
}

// A watchedMachine is one with all its outputs.
type watchedMachine struct {
	l     impl.Linear
	masks []int64
}

func watch(l impl.Linear, count int64) watchedMachine { return watchedMachine{l, slowMasks(l, count)} }

func (w watchedMachine) output(state, at int64) int64 { return parityOf(w.masks[at] & state) }

// seenFrom returns outputs of a state at indices.
func (w watchedMachine) seenFrom(state int64, indices []int64) []impl.Seen {
	var seen []impl.Seen
	for _, at := range indices {
		seen = append(seen, impl.Seen{At: at, Bit: w.output(state, at)})
	}
	return seen
}

// statesBehind tries all states.
func (w watchedMachine) statesBehind(seen []impl.Seen) []int64 {
	var states []int64
	for state := range int64(1) << w.l.Width {
		if !slices.ContainsFunc(seen, func(s impl.Seen) bool { return w.output(state, s.At) != s.Bit }) {
			states = append(states, state)
		}
	}
	return states
}

// check compares what is told of seen outputs with all states behind them.
func (w watchedMachine) check(t *testing.T, seen []impl.Seen, predicted []int64) {
	t.Helper()
	what := fmt.Sprint(w.l, " ", seen)
	states := w.statesBehind(seen)
	least, free, ok := impl.StatesBehind(w.l, seen)
	if len(states) == 0 {
		expectFail(t, "StatesBehind "+what, [2]int64{least, free}, ok)
	} else {
		expect(t, "StatesBehind "+what, least, ok, states[0])
		if free < 0 || free > w.l.Width || 1<<free != len(states) {
			t.Errorf("StatesBehind %s: got 2 to the power of %d, want %d", what, free, len(states))
		}
	}
	for _, at := range predicted {
		w.checkPrediction(t, fmt.Sprint("PredictBit ", what, " at ", at), seen, states, at)
	}
}

func (w watchedMachine) checkPrediction(t *testing.T, what string, seen []impl.Seen, states []int64, at int64) {
	t.Helper()
	bit, ok := impl.PredictBit(w.l, seen, at)
	differs := func(state int64) bool { return w.output(state, at) != w.output(states[0], at) }
	if len(states) == 0 || slices.ContainsFunc(states, differs) {
		expectFail(t, what, bit, ok)
	} else {
		expect(t, what, bit, ok, w.output(states[0], at))
	}
}

// drawnIndices returns indices below an end, some of them more than once.
func drawnIndices(count int, end int64, d *draws) []int64 {
	var list []int64
	for range count {
		list = append(list, d.below(end))
	}
	return list
}

// allSeen returns all lists of a number of outputs with indices below an end.
func allSeen(count int, end int64) [][]impl.Seen {
	var lists [][]impl.Seen
	for _, numbers := range listsUpTo(repeated(2*end-1, count)) {
		var seen []impl.Seen
		for _, number := range numbers {
			seen = append(seen, impl.Seen{At: number / 2, Bit: number % 2})
		}
		lists = append(lists, seen)
	}
	return lists
}

// Promise 9: the states behind outputs are all states that make them, and
// predictions hold for all of them.
func TestStatesBehindAllOutputs(t *testing.T) {
	lists := slices.Concat(allSeen(0, 1), allSeen(1, 6), allSeen(2, 5), allSeen(3, 4))
	for _, l := range append(allMachines(1), allMachines(2)...) {
		w := watch(l, 7)
		for _, seen := range lists {
			w.check(t, seen, valuesFrom(0, 1, 7))
		}
	}
	for _, l := range allMachines(3) {
		w := watch(l, 7)
		for _, seen := range allSeen(1, 5) {
			w.check(t, seen, []int64{0, 1, 2, 6})
		}
	}
}

func TestStatesBehindSomeOutputs(t *testing.T) {
	d := draws(811)
	for _, l := range smallMachines() {
		w := watch(l, 40)
		for range 6 {
			indices := drawnIndices(int(d.below(6)), 40, &d)
			seen := w.seenFrom(d.below(1<<l.Width), indices)
			w.check(t, seen, append(indices, d.below(40)))
			if len(seen) > 0 {
				seen[d.below(int64(len(seen)))].Bit = d.below(2)
				w.check(t, seen, append(indices, d.below(40)))
			}
		}
	}
}

// Promise 9 for machines with a great width, and all indices of outputs.
func TestStatesBehindOfWideMachines(t *testing.T) {
	d := draws(812)
	for _, l := range wideMachines() {
		w := watch(l, maxAt+1)
		predicted := []int64{0, 1, 15, 16, 5000, maxAt - 1, maxAt, d.below(maxAt)}
		w.check(t, nil, predicted)
		for _, count := range []int{1, 5, 12, 16, 63, 64} {
			for _, end := range []int64{16, 100, maxAt + 1} {
				indices := drawnIndices(count, end, &d)
				seen := w.seenFrom(d.below(1<<l.Width), indices)
				w.check(t, seen, append(predicted, indices[0]))
				seen[d.below(int64(count))].Bit = d.below(2)
				w.check(t, seen, append(predicted, indices[0]))
			}
		}
		for _, state := range machineStates(l, &d) {
			w.check(t, w.seenFrom(state, valuesFrom(0, 1, 64)), predicted)
			w.check(t, w.seenFrom(state, valuesFrom(maxAt-63, 1, 64)), predicted)
			w.check(t, w.seenFrom(state, valuesFrom(maxAt, 0, 64)), predicted)
		}
	}
}

// The order of outputs, and outputs that are seen again, tell nothing.
func TestSeenAgain(t *testing.T) {
	d := draws(813)
	for _, l := range append(allMachines(2), wideMachines()...) {
		w := watch(l, 50)
		seen := w.seenFrom(d.below(1<<l.Width), drawnIndices(6, 50, &d))
		least, free, ok := impl.StatesBehind(l, seen)
		if !ok {
			t.Errorf("StatesBehind %v %v fails", l, seen)
		}
		turned := slices.Clone(seen)
		slices.Reverse(turned)
		for _, same := range [][]impl.Seen{turned, append(slices.Clone(seen), turned...)} {
			again, left, ok := impl.StatesBehind(l, same)
			expect(t, fmt.Sprint("StatesBehind ", l, " ", same), [2]int64{again, left}, ok, [2]int64{least, free})
		}
		for _, s := range seen {
			bit, ok := impl.PredictBit(l, seen, s.At)
			expect(t, fmt.Sprint("PredictBit ", l, " of an index that is seen"), bit, ok, s.Bit)
			other := append(slices.Clone(seen), impl.Seen{At: s.At, Bit: 1 - s.Bit})
			expectContradiction(t, l, other)
		}
	}
}

// expectContradiction requires that there is no state behind outputs, so that
// there are no predictions.
func expectContradiction(t *testing.T, l impl.Linear, seen []impl.Seen) {
	t.Helper()
	what := fmt.Sprint(l, " ", seen)
	least, free, ok := impl.StatesBehind(l, seen)
	expectFail(t, "StatesBehind "+what, [2]int64{least, free}, ok)
	for _, at := range []int64{0, 1, 20, seen[0].At, maxAt} {
		bit, ok := impl.PredictBit(l, seen, at)
		expectFail(t, fmt.Sprint("PredictBit ", what, " at ", at), bit, ok)
	}
}

// expectBehind requires some states behind outputs.
func expectBehind(t *testing.T, l impl.Linear, seen []impl.Seen, least, free int64) {
	t.Helper()
	got, left, ok := impl.StatesBehind(l, seen)
	expect(t, fmt.Sprint("StatesBehind ", l, " ", seen), [2]int64{got, left}, ok, [2]int64{least, free})
}

func TestMachinesThatForget(t *testing.T) {
	for width := int64(1); width <= 16; width++ {
		l, last := forgetful(width), int64(1)<<width-1
		expectBehind(t, l, nil, 0, width)
		for at := range width {
			bit, ok := impl.PredictBit(l, nil, at)
			expectFail(t, "PredictBit of what is not forgotten", bit, ok)
			expectBehind(t, l, []impl.Seen{{At: at, Bit: 1}}, 1<<at, width-1)
			expectBehind(t, l, []impl.Seen{{At: at, Bit: 0}}, 0, width-1)
		}
		for _, at := range []int64{width, width + 1, 100, maxAt} {
			bit, ok := impl.PredictBit(l, nil, at)
			expect(t, "PredictBit of what is forgotten", bit, ok, 0)
			expectBehind(t, l, []impl.Seen{{At: at, Bit: 0}}, 0, width)
			expectContradiction(t, l, []impl.Seen{{At: at, Bit: 1}})
			expectContradiction(t, l, []impl.Seen{{At: at, Bit: 1}, {At: 0, Bit: 0}})
			expectContradiction(t, l, []impl.Seen{{At: 0, Bit: 1}, {At: at, Bit: 1}})
		}
		all := watch(l, width).seenFrom(last, valuesFrom(0, 1, int(width)))
		expectBehind(t, l, all, last, 0)
		rank, ok := impl.OutputRank(l)
		expect(t, "OutputRank of a machine that forgets", rank, ok, width)
	}
}

func TestMachinesThatNeverOutputOne(t *testing.T) {
	for _, l := range []impl.Linear{turning(1, 0), {Width: 2, Rows: []int64{0, 3}}, {Width: 16, Rows: make([]int64, 16)}, turning(16, 0), stacked(16, 0)} {
		rank, ok := impl.OutputRank(l)
		expect(t, fmt.Sprint("OutputRank ", l), rank, ok, 0)
		for _, at := range []int64{0, 1, maxAt} {
			bit, ok := impl.PredictBit(l, nil, at)
			expect(t, fmt.Sprint("PredictBit ", l, " at ", at), bit, ok, 0)
			expectBehind(t, l, []impl.Seen{{At: at, Bit: 0}}, 0, l.Width)
			expectContradiction(t, l, []impl.Seen{{At: at, Bit: 1}})
		}
		r, state, ok := impl.RegisterOf(l, 1)
		expect(t, "RegisterOf zeros", r, ok, impl.Register{})
		expect(t, "RegisterOf zeros", state, ok, 0)
	}
}

func TestBehindExamples(t *testing.T) {
	l, _ := impl.OfRegister(impl.Register{Width: 3, Taps: 3})
	rank, ok := impl.OutputRank(l)
	expect(t, "OutputRank of the example", rank, ok, 3)
	seen := []impl.Seen{{At: 0, Bit: 1}, {At: 3, Bit: 1}}
	expectBehind(t, l, seen, 1, 1)
	bit, ok := impl.PredictBit(l, seen, 4)
	expectFail(t, "PredictBit of the example at 4", bit, ok)
	bit, ok = impl.PredictBit(l, seen, 1)
	expect(t, "PredictBit of the example at 1", bit, ok, 0)
	bit, ok = impl.PredictBit(l, seen, 7)
	expect(t, "PredictBit of the example at 7", bit, ok, 1)
}

// wrongSeen returns lists that are too long, or have an output that cannot be
// seen.
func wrongSeen() [][]impl.Seen {
	lists := [][]impl.Seen{repeated(impl.Seen{At: 1, Bit: 0}, 65), repeated(impl.Seen{}, 65), repeated(impl.Seen{At: maxAt}, 1000)}
	for _, at := range []int64{-1, maxAt + 1, 1 << 32, math.MinInt64, math.MaxInt64} {
		lists = append(lists, []impl.Seen{{At: at}}, []impl.Seen{{At: at, Bit: 1}})
	}
	for _, bit := range []int64{-1, 2, 3, 1 << 32, math.MinInt64, math.MaxInt64} {
		lists = append(lists, []impl.Seen{{Bit: bit}}, []impl.Seen{{At: maxAt, Bit: bit}})
	}
	for _, list := range slices.Clone(lists[3:]) {
		lists = append(lists, append(repeated(impl.Seen{At: 1}, 63), list...), append(list, impl.Seen{At: 1}))
	}
	return lists
}

func TestBehindFails(t *testing.T) {
	good := []impl.Seen{{At: 0, Bit: 0}}
	for _, l := range []impl.Linear{turning(1, 1), tapped(3, 3), forgetful(16), turning(16, 0)} {
		for _, seen := range wrongSeen() {
			least, free, ok := impl.StatesBehind(l, seen)
			expectFail(t, fmt.Sprint("StatesBehind ", l, " ", seen), [2]int64{least, free}, ok)
			for _, at := range []int64{0, 1, maxAt} {
				bit, ok := impl.PredictBit(l, seen, at)
				expectFail(t, fmt.Sprint("PredictBit ", l, " ", seen), bit, ok)
			}
		}
		for _, at := range []int64{-1, maxAt + 1, 1 << 32, math.MinInt64, math.MaxInt64} {
			for _, seen := range [][]impl.Seen{nil, good, repeated(good[0], 64)} {
				bit, ok := impl.PredictBit(l, seen, at)
				expectFail(t, fmt.Sprint("PredictBit ", l, " ", seen, " at ", at), bit, ok)
			}
		}
		watch(l, maxAt+1).check(t, repeated(impl.Seen{At: maxAt}, 64), []int64{0, maxAt})
	}
	for _, l := range wrongMachines() {
		for _, seen := range [][]impl.Seen{nil, good} {
			least, free, ok := impl.StatesBehind(l, seen)
			expectFail(t, fmt.Sprint("StatesBehind ", l, " ", seen), [2]int64{least, free}, ok)
			bit, ok := impl.PredictBit(l, seen, 0)
			expectFail(t, fmt.Sprint("PredictBit ", l, " ", seen), bit, ok)
		}
	}
}

// sequencesOf returns how many different sequences of some first outputs all
// states have.
func (w watchedMachine) sequencesOf(count int64) int {
	found := map[int64]bool{}
	for state := range int64(1) << w.l.Width {
		sequence := int64(0)
		for at := range count {
			sequence |= w.output(state, at) << at
		}
		found[sequence] = true
	}
	return len(found)
}

// The states have as many sequences as the rank tells, and as many outputs
// tell these apart, but no fewer.
func TestOutputRanks(t *testing.T) {
	for _, l := range slices.Concat(allMachines(1), allMachines(2), allMachines(3), wideMachines()) {
		w := watch(l, 40)
		rank, ok := impl.OutputRank(l)
		if !ok || rank < 0 || rank > l.Width {
			t.Fatalf("OutputRank %v: got %d and %v", l, rank, ok)
		}
		if w.sequencesOf(40) != 1<<rank || w.sequencesOf(rank) != 1<<rank {
			t.Errorf("OutputRank %v: got %d, but there are %d sequences", l, rank, w.sequencesOf(40))
		}
		if rank > 0 && w.sequencesOf(rank-1) == 1<<rank {
			t.Errorf("OutputRank %v: got %d, but fewer outputs are enough", l, rank)
		}
	}
}

// checkRegisterOf requires a register that has the outputs of a machine, and
// of which none is shorter.
func checkRegisterOf(t *testing.T, w watchedMachine, state int64) {
	t.Helper()
	what := fmt.Sprint("RegisterOf ", w.l, " at ", state)
	r, at, ok := impl.RegisterOf(w.l, state)
	if !ok || !impl.ValidRegister(r) || r.Width > w.l.Width || at < 0 || at >= 1<<r.Width {
		t.Fatalf("%s: got %v, %d and %v", what, r, at, ok)
	}
	text := ""
	for i := range w.masks {
		next, bit := slowStep(r, at)
		if want := w.output(state, int64(i)); bit != want {
			t.Errorf("%s: the register %v outputs %d at %d, want %d", what, r, bit, i, want)
			return
		}
		text, at = text+string(rune('0'+bit)), next
	}
	widths := widthsBySynthesis(text[:4*w.l.Width])
	if shortest := widths[len(widths)-1]; shortest != r.Width {
		t.Errorf("%s: got %v, but the width %d is enough", what, r, shortest)
	}
	first, start, ok := impl.ShortestRegister(text[:2*w.l.Width])
	got, begin, _ := impl.RegisterOf(w.l, state)
	expect(t, what, got, ok, first)
	expect(t, what, begin, ok, start)
}

func TestRegistersOfMachines(t *testing.T) {
	for _, l := range smallMachines() {
		w := watch(l, 40)
		for state := range int64(1) << l.Width {
			checkRegisterOf(t, w, state)
		}
	}
	d := draws(814)
	for _, l := range wideMachines() {
		w := watch(l, 500)
		for _, state := range machineStates(l, &d) {
			checkRegisterOf(t, w, state)
		}
	}
	r, state, ok := impl.RegisterOf(forgetful(16), 1<<15)
	expect(t, "RegisterOf a machine that forgets", r, ok, impl.Register{Width: 16})
	expect(t, "RegisterOf a machine that forgets", state, ok, 1<<15)
	r, state, ok = impl.RegisterOf(turning(16, 1<<15), 1)
	expect(t, "RegisterOf a machine that turns", r, ok, impl.Register{Width: 16, Taps: 1})
	expect(t, "RegisterOf a machine that turns", state, ok, 2)
}

// Far away, the register of a machine outputs what the machine does, too.
func TestRegistersOfMachinesFarAway(t *testing.T) {
	d := draws(815)
	for _, l := range wideMachines() {
		for _, state := range machineStates(l, &d) {
			r, at, _ := impl.RegisterOf(l, state)
			for _, n := range []int64{65535, maxJump, d.below(maxJump)} {
				far, _ := impl.JumpLinear(l, state, n)
				place, _ := impl.JumpRegister(r, at, n)
				want, _ := impl.LinearBits(l, far, 40)
				got, ok := impl.RegisterBits(r, place, 40)
				expect(t, fmt.Sprint("the outputs of ", r, " behind ", n, " steps"), got, ok, want)
			}
		}
	}
}
