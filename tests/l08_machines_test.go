package tests

import (
	"fmt"
	"math"
	"math/bits"
	"slices"
	"testing"

	"loop.example/g01121/impl"
)

func parityOf(n int64) int64 { return int64(bits.OnesCount64(uint64(n))) % 2 }

// slowLinear makes a step of a machine as the document tells it.
func slowLinear(l impl.Linear, state int64) (next, output int64) {
	for i, row := range l.Rows {
		next += parityOf(row&state) << i
	}
	return next, parityOf(l.Out & state)
}

// allMachines returns all machines with a width.
func allMachines(width int64) []impl.Linear {
	var list []impl.Linear
	for _, numbers := range listsUpTo(repeated(int64(1)<<width-1, int(width+1))) {
		list = append(list, impl.Linear{Width: width, Rows: numbers[:width], Out: numbers[width]})
	}
	return list
}

// smallMachines returns all machines with a width of at most 2, and some of
// those with the width 3.
func smallMachines() []impl.Linear {
	list := append(allMachines(1), allMachines(2)...)
	for i, l := range allMachines(3) {
		if i%7 == 0 {
			list = append(list, l)
		}
	}
	return list
}

// machineBy returns the machine with rows by their indices.
func machineBy(width, out int64, row func(i int64) int64) impl.Linear {
	l := impl.Linear{Width: width, Out: out}
	for i := range width {
		l.Rows = append(l.Rows, row(i))
	}
	return l
}

// forgetful returns the machine that outputs the bits of its state, the least
// one first, and then zeros.
func forgetful(width int64) impl.Linear {
	return machineBy(width, 1, func(i int64) int64 { return 1 << (i + 1) & (1<<width - 1) })
}

// turning returns the machine whose bits go around.
func turning(width, out int64) impl.Linear {
	return machineBy(width, out, func(i int64) int64 { return 1 << ((i + 1) % width) })
}

// tapped returns the machine of a register.
func tapped(width, taps int64) impl.Linear {
	l := forgetful(width)
	l.Rows[width-1] = taps
	return l
}

// stacked returns the machine whose bits become the sums of those up to them.
func stacked(width, out int64) impl.Linear {
	return machineBy(width, out, func(i int64) int64 { return 2<<i - 1 })
}

func drawnMachine(width int64, d *draws) impl.Linear {
	return machineBy(width, d.below(1<<width), func(int64) int64 { return d.below(1 << width) })
}

// wideMachines returns machines with the greatest width or a bit less.
func wideMachines() []impl.Linear {
	d := draws(81)
	last := int64(1<<16 - 1)
	list := []impl.Linear{
		forgetful(16), forgetful(15), turning(16, 1), turning(16, 1<<15), turning(16, 5), turning(16, 0), turning(15, 1<<15-1),
		machineBy(16, last, func(int64) int64 { return 0 }),
		machineBy(16, last, func(int64) int64 { return last }),
		machineBy(16, 1, func(int64) int64 { return last }),
		machineBy(16, 1<<15, func(i int64) int64 { return 1 << i }),
		stacked(16, 1<<15), tapped(16, 1), tapped(16, 4107), tapped(16, last), tapped(16, 1<<15),
		machineBy(16, 0, func(i int64) int64 { return 1 << (15 - i) }),
		machineBy(16, 3, func(i int64) int64 { return 1 << (i / 2) }),
		// Two machines side by side, of which one is never seen.
		machineBy(16, 1, func(i int64) int64 { return 1 << (i&8 + (i+1)%8) }),
		// A bit that forgets, a bit that stays and others that are lost.
		machineBy(16, 7, func(i int64) int64 { return i & 2 }),
	}
	for range 8 {
		list = append(list, drawnMachine(16, &d), drawnMachine(4+d.below(12), &d))
	}
	return list
}

func machineStates(l impl.Linear, d *draws) []int64 {
	return someStates(impl.Register{Width: l.Width}, d)
}

// outsideStates returns numbers that are no states of a machine with a width.
func outsideStates(l impl.Linear) []int64 {
	return []int64{-1, math.MinInt64, 1 << l.Width, 1<<l.Width + 1, 1 << 17, math.MaxInt64}
}

// wrongMachines returns machines that are not valid.
func wrongMachines() []impl.Linear {
	list := []impl.Linear{
		{}, {Rows: []int64{0}}, {Rows: []int64{}, Out: 1}, {Width: -1}, {Width: -1, Rows: []int64{0}},
		{Width: math.MinInt64}, {Width: math.MaxInt64}, {Width: math.MaxInt64, Rows: make([]int64, 16)}, {Width: 1 << 32, Rows: make([]int64, 1)},
		{Width: 17, Rows: make([]int64, 17)}, {Width: 17, Rows: make([]int64, 16)}, {Width: 18, Rows: make([]int64, 18), Out: 1}, {Width: 64, Rows: make([]int64, 64)},
	}
	for _, width := range []int64{1, 2, 3, 8, 15, 16} {
		end := int64(1) << width
		for _, count := range []int64{0, width - 1, width + 1, 2 * width} {
			list = append(list, impl.Linear{Width: width, Rows: make([]int64, count), Out: 1})
		}
		for _, wrong := range []int64{-1, end, end + 1, -end, math.MinInt64, math.MaxInt64} {
			list = append(list, turning(width, wrong))
			for _, place := range []int64{0, width / 2, width - 1} {
				l := turning(width, end-1)
				l.Rows[place] = wrong
				list = append(list, l)
			}
		}
	}
	return list
}

func TestHiddenLimits(t *testing.T) {
	got := []int64{impl.MaxSeen, impl.MaxAt}
	if want := []int64{64, 10000}; !slices.Equal(got, want) {
		t.Errorf("got %v, want %v", got, want)
	}
}

func TestValidMachines(t *testing.T) {
	for width := int64(1); width <= 16; width++ {
		last := int64(1)<<width - 1
		for _, number := range []int64{0, 1, last / 2, last} {
			for _, out := range []int64{0, 1, last} {
				l := machineBy(width, out, func(int64) int64 { return number })
				if !impl.ValidLinear(l) {
					t.Errorf("%v is not valid", l)
				}
			}
		}
		for place := range width {
			l := machineBy(width, last, func(int64) int64 { return last })
			for _, wrong := range []int64{last + 1, -1} {
				l.Rows[place] = wrong
				if impl.ValidLinear(l) {
					t.Errorf("%v is valid", l)
				}
			}
		}
	}
	for _, l := range slices.Concat(smallMachines(), wideMachines()) {
		if !impl.ValidLinear(l) {
			t.Errorf("%v is not valid", l)
		}
	}
	for _, l := range wrongMachines() {
		if impl.ValidLinear(l) {
			t.Errorf("%v is valid", l)
		}
	}
}

func machineWalker(l impl.Linear) walker {
	return walker{
		fmt.Sprint("machine ", l),
		func(state int64) (int64, int64) { return slowLinear(l, state) },
		func(state int64) (int64, int64, bool) { return impl.StepLinear(l, state) },
		func(state, count int64) (string, bool) { return impl.LinearBits(l, state, count) },
		func(state, n int64) (int64, bool) { return impl.JumpLinear(l, state, n) },
	}
}

func TestMachineWalks(t *testing.T) {
	for _, l := range smallMachines() {
		for state := range int64(1) << l.Width {
			machineWalker(l).check(t, state, 12)
		}
	}
	d := draws(82)
	for _, l := range wideMachines() {
		for _, state := range machineStates(l, &d) {
			machineWalker(l).check(t, state, 40)
		}
	}
	machineWalker(tapped(16, 4107)).check(t, 1, 402)
	machineWalker(turning(1, 1)).check(t, 1, 402)
}

func TestMachineJumps(t *testing.T) {
	d := draws(83)
	for _, l := range slices.Concat(allMachines(1), allMachines(2), wideMachines()) {
		for _, state := range machineStates(l, &d) {
			machineWalker(l).checkJumps(t, state, &d)
		}
	}
}

// statesBefore returns, for each state, how many states lead to it, and one of
// these.
func statesBefore(l impl.Linear) (counts, before []int64) {
	counts, before = make([]int64, 1<<l.Width), make([]int64, 1<<l.Width)
	for state := range int64(1) << l.Width {
		next, _ := slowLinear(l, state)
		counts[next]++
		before[next] = state
	}
	return counts, before
}

// checkStepsBack requires steps back from some states, or that there are none at
// all if states have several ones before them, and others none.
func checkStepsBack(t *testing.T, l impl.Linear, counts, before, states []int64) {
	t.Helper()
	single := slices.Max(counts) == 1
	for _, state := range states {
		what := fmt.Sprint("BackLinear ", l, " from ", state)
		got, ok := impl.BackLinear(l, state)
		if single {
			expect(t, what, got, ok, before[state])
		} else {
			expectFail(t, what, got, ok)
		}
	}
}

func TestMachineStepsBack(t *testing.T) {
	for _, l := range slices.Concat(allMachines(1), allMachines(2), allMachines(3)) {
		counts, before := statesBefore(l)
		checkStepsBack(t, l, counts, before, valuesFrom(0, 1, 1<<l.Width))
	}
	d := draws(84)
	for _, l := range wideMachines() {
		counts, before := statesBefore(l)
		states := append(machineStates(l, &d), 1, 1<<l.Width-2)
		// Those with the most states before them, and those with none.
		states = append(states, int64(slices.Index(counts, slices.Max(counts))), int64(slices.Index(counts, slices.Min(counts))))
		checkStepsBack(t, l, counts, before, states)
	}
	for _, l := range []impl.Linear{turning(16, 1), stacked(16, 1), forgetful(16)} {
		counts, before := statesBefore(l)
		checkStepsBack(t, l, counts, before, valuesFrom(0, 1, 1<<16))
	}
}

func TestMachinesOfRegisters(t *testing.T) {
	d := draws(85)
	for _, r := range append(smallRegisters(6), wideRegisters()...) {
		l, ok := impl.OfRegister(r)
		if r.Width == 0 {
			expectNoMachine(t, fmt.Sprint("OfRegister ", r), l, ok)
			continue
		}
		if !ok || !impl.ValidLinear(l) || l.Width != r.Width {
			t.Fatalf("OfRegister %v: got %v and %v", r, l, ok)
		}
		states := append(machineStates(l, &d), valuesFrom(0, 1, min(1<<r.Width, 64))...)
		for i := range r.Width {
			states = append(states, 1<<i)
		}
		for _, state := range states {
			next, bit := slowLinear(l, state)
			wantNext, wantBit := slowStep(r, state)
			if next != wantNext || bit != wantBit {
				t.Errorf("the machine of %v: got %d and %d from %d, want %d and %d", r, next, bit, state, wantNext, wantBit)
			}
		}
	}
	for _, r := range registerPool() {
		if l, ok := impl.OfRegister(r); !impl.ValidRegister(r) {
			expectNoMachine(t, fmt.Sprint("OfRegister ", r), l, ok)
		}
	}
	l, ok := impl.OfRegister(impl.Register{Width: 1, Taps: 1})
	expectMachine(t, "the machine of a bit that stays", l, ok, impl.Linear{Width: 1, Rows: []int64{1}, Out: 1})
	l, ok = impl.OfRegister(impl.Register{Width: 1})
	expectMachine(t, "the machine of a bit that is lost", l, ok, forgetful(1))
	l, ok = impl.OfRegister(impl.Register{Width: 16})
	expectMachine(t, "the machine that forgets", l, ok, forgetful(16))
	l, ok = impl.OfRegister(impl.Register{Width: 16, Taps: 1})
	expectMachine(t, "the machine that turns", l, ok, turning(16, 1))
}

func expectMachine(t *testing.T, what string, got impl.Linear, ok bool, want impl.Linear) {
	t.Helper()
	if !ok || got.Width != want.Width || got.Out != want.Out || !slices.Equal(got.Rows, want.Rows) {
		t.Errorf("%s: got %v and %v, want %v", what, got, ok, want)
	}
}

func expectNoMachine(t *testing.T, what string, got impl.Linear, ok bool) {
	t.Helper()
	if ok || got.Width != 0 || len(got.Rows) != 0 || got.Out != 0 {
		t.Errorf("%s: got %v and %v, want it to fail", what, got, ok)
	}
}

// shiftedOr returns the exclusive or of a word and itself moved up by some
// bits, or down by fewer than none, where only the bits of a mask count.
func shiftedOr(word, width, up, mask int64) int64 {
	changed := word
	for i := range width {
		if from := i - up; 0 <= from && from < width && mask>>i&1 == 1 && word>>from&1 == 1 {
			changed ^= 1 << i
		}
	}
	return changed
}

func slowXorshift(width, a, b, c, state int64) int64 {
	state = shiftedOr(state, width, a, -1)
	state = shiftedOr(state, width, -b, -1)
	return shiftedOr(state, width, c, -1)
}

func checkXorshift(t *testing.T, width, a, b, c int64, d *draws) {
	t.Helper()
	what := fmt.Sprint("OfXorshift ", width, ", ", a, ", ", b, ", ", c)
	l, ok := impl.OfXorshift(width, a, b, c)
	if !ok || l.Width != width || l.Out != 1 || !impl.ValidLinear(l) {
		t.Fatalf("%s: got %v and %v", what, l, ok)
	}
	states := machineStates(l, d)
	for i := range width {
		states = append(states, 1<<i)
	}
	for _, state := range states {
		next, _ := slowLinear(l, state)
		if want := slowXorshift(width, a, b, c, state); next != want {
			t.Errorf("%s: got %d from %d, want %d", what, next, state, want)
		}
	}
}

func TestMachinesOfXorshifts(t *testing.T) {
	d := draws(86)
	for width := int64(1); width <= 16; width++ {
		for _, moves := range listsUpTo(repeated(width, 3)) {
			if a, b, c := moves[0], moves[1], moves[2]; width < 9 || a*b*c%5 == 0 {
				checkXorshift(t, width, a, b, c, &d)
			}
		}
		for place := range 3 {
			for _, wrong := range []int64{-1, width + 1, 64, 1 << 32, math.MinInt64, math.MaxInt64} {
				for _, others := range []int64{0, 1, width} {
					moves := repeated(others, 3)
					moves[place] = wrong
					l, ok := impl.OfXorshift(width, moves[0], moves[1], moves[2])
					expectNoMachine(t, fmt.Sprint("OfXorshift ", width, " ", moves), l, ok)
				}
			}
		}
	}
	for _, width := range []int64{-1, 0, 17, 64, math.MinInt64, math.MaxInt64} {
		for _, moves := range []int64{-1, 0, 1, 16, 17} {
			l, ok := impl.OfXorshift(width, moves, moves, moves)
			expectNoMachine(t, fmt.Sprint("OfXorshift ", width, " ", moves), l, ok)
		}
	}
	l, ok := impl.OfXorshift(3, 1, 1, 2)
	expectMachine(t, "OfXorshift 3, 1, 1, 2", l, ok, impl.Linear{Width: 3, Rows: []int64{2, 5, 4}, Out: 1})
	l, ok = impl.OfXorshift(16, 16, 16, 16)
	expectMachine(t, "the xorshift that changes nothing", l, ok, machineBy(16, 1, func(i int64) int64 { return 1 << i }))
	l, ok = impl.OfXorshift(16, 16, 0, 16)
	expectMachine(t, "the xorshift that loses all", l, ok, machineBy(16, 1, func(int64) int64 { return 0 }))
}

// A xorshift can be taken back unless a move by 0 loses everything.
func TestXorshiftsBack(t *testing.T) {
	for _, moves := range listsUpTo(repeated[int64](5, 3)) {
		l, _ := impl.OfXorshift(5, moves[0], moves[1], moves[2])
		for state := range int64(32) {
			next := slowXorshift(5, moves[0], moves[1], moves[2], state)
			back, ok := impl.BackLinear(l, next)
			if slices.Contains(moves, 0) {
				expectFail(t, fmt.Sprint("BackLinear of the xorshift ", moves), back, ok)
			} else {
				expect(t, fmt.Sprint("BackLinear of the xorshift ", moves), back, ok, state)
			}
		}
	}
}

// checkMachineFails requires that no function accepts the machine at the state.
func checkMachineFails(t *testing.T, l impl.Linear, state int64) {
	t.Helper()
	what := fmt.Sprint("machine ", l, " at ", state)
	next, bit, ok := impl.StepLinear(l, state)
	expectFail(t, what+", StepLinear", [2]int64{next, bit}, ok)
	for _, count := range []int64{0, 1} {
		text, ok := impl.LinearBits(l, state, count)
		expectFail(t, what+", LinearBits", text, ok)
		far, ok := impl.JumpLinear(l, state, count)
		expectFail(t, what+", JumpLinear", far, ok)
	}
	back, ok := impl.BackLinear(l, state)
	expectFail(t, what+", BackLinear", back, ok)
	r, first, ok := impl.RegisterOf(l, state)
	expectFail(t, what+", RegisterOf", r, ok)
	expectFail(t, what+", RegisterOf", first, ok)
}

func TestMachinesFail(t *testing.T) {
	for _, l := range wrongMachines() {
		for _, state := range []int64{0, 1, -1, math.MinInt64, math.MaxInt64} {
			checkMachineFails(t, l, state)
		}
		rank, ok := impl.OutputRank(l)
		expectFail(t, fmt.Sprint("OutputRank ", l), rank, ok)
	}
	d := draws(87)
	for width := int64(1); width <= 16; width++ {
		for _, l := range []impl.Linear{turning(width, 1), forgetful(width), drawnMachine(width, &d)} {
			for _, state := range outsideStates(l) {
				checkMachineFails(t, l, state)
			}
			for _, count := range []int64{-1, 401, math.MinInt64, math.MaxInt64} {
				text, ok := impl.LinearBits(l, 0, count)
				expectFail(t, "LinearBits with a wrong count", text, ok)
			}
			for _, n := range []int64{-1, maxJump + 1, math.MinInt64, math.MaxInt64} {
				far, ok := impl.JumpLinear(l, 1, n)
				expectFail(t, "JumpLinear by a wrong number", far, ok)
			}
		}
	}
}
