package tests

import (
	"fmt"
	"math"
	"slices"
	"testing"

	"loop.example/g01121/impl"
)

const maxJump = int64(impl.MaxJump)

// slowStep makes a step with a list of bits, as the document tells it.
func slowStep(r impl.Register, state int64) (next, output int64) {
	var line []int64
	newest := int64(0)
	for i := range r.Width {
		line = append(line, state>>i&1)
		newest += r.Taps >> i & 1 * (state >> i & 1)
	}
	if len(line) == 0 {
		return 0, 0
	}
	output = line[0]
	line = append(line[1:], newest%2)
	for i, bit := range line {
		next += bit << i
	}
	return next, output
}

// slowCycle returns how many of the states come before the cycle, and its length.
func slowCycle(next func(int64) int64, state int64) (int64, int64) {
	seen := map[int64]int64{}
	for step := int64(0); ; step++ {
		if before, ok := seen[state]; ok {
			return before, step - before
		}
		seen[state] = step
		state = next(state)
	}
}

// smallRegisters returns all registers whose width is at most the given one.
func smallRegisters(width int64) []impl.Register {
	var list []impl.Register
	for w := range width + 1 {
		for taps := range int64(1) << w {
			list = append(list, impl.Register{Width: w, Taps: taps})
		}
	}
	return list
}

// wideRegisters returns registers with the greatest width or a bit less.
func wideRegisters() []impl.Register {
	list := []impl.Register{{Width: 16}, {Width: 16, Taps: 1}, {Width: 16, Taps: 1 << 15}, {Width: 16, Taps: 4107}, {Width: 16, Taps: 65535}, {Width: 15, Taps: 3}, {Width: 15, Taps: 1<<15 - 1}}
	d := draws(21)
	for range 12 {
		list = append(list, impl.Register{Width: 16, Taps: d.below(1 << 16)})
	}
	return list
}

// someStates returns the least and the greatest state, and some others.
func someStates(r impl.Register, d *draws) []int64 {
	end := int64(1) << r.Width
	return []int64{0, end - 1, end / 2, d.below(end), d.below(end)}
}

func TestRegisterLimits(t *testing.T) {
	got := []int64{impl.MaxWidth, impl.MaxShort, impl.MaxJump, impl.PolyLimit}
	if want := []int64{16, 32, 1000000000000000000, 4294967296}; !slices.Equal(got, want) {
		t.Errorf("got %v, want %v", got, want)
	}
}

func TestValidRegisters(t *testing.T) {
	for width := int64(-3); width <= 70; width++ {
		valid := 0 <= width && width <= 16
		for _, taps := range []int64{0, 1, 2, 1<<16 - 1, 1 << 16, -1, math.MinInt64, math.MaxInt64} {
			want := valid && 0 <= taps && taps < 1<<width
			if got := impl.ValidRegister(impl.Register{Width: width, Taps: taps}); got != want {
				t.Errorf("ValidRegister of %d and %d is %v", width, taps, got)
			}
		}
		if valid && (!impl.ValidRegister(impl.Register{Width: width, Taps: 1<<width - 1}) || impl.ValidRegister(impl.Register{Width: width, Taps: 1 << width})) {
			t.Errorf("the limit of the taps with the width %d is wrong", width)
		}
	}
}

// A walker is a machine with all that the program tells of its steps, and with
// slow ones.
type walker struct {
	name string
	slow func(state int64) (next, output int64)
	step func(state int64) (next, output int64, ok bool)
	bits func(state, count int64) (string, bool)
	jump func(state, n int64) (int64, bool)
}

func registerWalker(r impl.Register) walker {
	return walker{
		fmt.Sprint("register ", r),
		func(state int64) (int64, int64) { return slowStep(r, state) },
		func(state int64) (int64, int64, bool) { return impl.StepRegister(r, state) },
		func(state, count int64) (string, bool) { return impl.RegisterBits(r, state, count) },
		func(state, n int64) (int64, bool) { return impl.JumpRegister(r, state, n) },
	}
}

// check compares some steps with slow ones, and jumps and outputs with both.
func (w walker) check(t *testing.T, state int64, steps int64) {
	t.Helper()
	what := fmt.Sprint(w.name, " at ", state)
	text, at := "", state
	for n := range steps {
		far, ok := w.jump(state, n)
		expect(t, fmt.Sprint(what, ", jump ", n), far, ok, at)
		if n <= impl.MaxBits {
			got, ok := w.bits(state, n)
			expect(t, what+", bits", got, ok, text)
		}
		wantNext, wantBit := w.slow(at)
		next, bit, ok := w.step(at)
		expect(t, what+", state", next, ok, wantNext)
		expect(t, what+", output", bit, ok, wantBit)
		text, at = text+string(rune('0'+wantBit)), wantNext
	}
}

// checkJumps requires that jumps of any length lead where steps lead, as the
// cycle tells.
func (w walker) checkJumps(t *testing.T, state int64, d *draws) {
	t.Helper()
	what := fmt.Sprint(w.name, " at ", state)
	before, length := slowCycle(func(s int64) int64 { next, _ := w.slow(s); return next }, state)
	for _, n := range []int64{0, 1, 15, 16, 65535, 65536, 65537, maxJump / 3, maxJump - 1, maxJump, d.below(maxJump)} {
		want, steps := state, n
		if n > before {
			steps = before + (n-before)%length
		}
		for range steps {
			want, _ = w.slow(want)
		}
		got, ok := w.jump(state, n)
		expect(t, fmt.Sprint(what, ", jump ", n), got, ok, want)
		half, _ := w.jump(state, n/2)
		whole, ok := w.jump(half, n-n/2)
		expect(t, fmt.Sprint(what, ", two jumps ", n), whole, ok, got)
	}
}

// Promise 3: jumps lead where steps lead.
func TestRegisterWalks(t *testing.T) {
	for _, r := range smallRegisters(4) {
		for state := range int64(1) << r.Width {
			registerWalker(r).check(t, state, 40)
		}
	}
	d := draws(22)
	for _, r := range wideRegisters() {
		for _, state := range someStates(r, &d) {
			registerWalker(r).check(t, state, 60)
		}
	}
	registerWalker(impl.Register{Width: 16, Taps: 4107}).check(t, 1, 402)
	registerWalker(impl.Register{}).check(t, 0, 402)
}

// Promise 3: jumps of any length lead where steps lead, as the cycle tells.
func TestRegisterJumps(t *testing.T) {
	d := draws(23)
	for _, r := range append(smallRegisters(5), wideRegisters()...) {
		for _, state := range someStates(r, &d) {
			registerWalker(r).checkJumps(t, state, &d)
		}
	}
}

func TestRegisterCycles(t *testing.T) {
	for _, r := range smallRegisters(6) {
		for state := range int64(1) << r.Width {
			checkCycle(t, r, state)
		}
	}
	d := draws(24)
	for _, r := range wideRegisters() {
		for _, state := range someStates(r, &d) {
			checkCycle(t, r, state)
		}
	}
	for state := range int64(1 << 16) {
		before, length, ok := impl.RegisterCycle(impl.Register{Width: 16}, state)
		want := int64(0)
		for state>>want > 0 {
			want++
		}
		expect(t, "steps until the state 0", before, ok, want)
		expect(t, "the cycle of the state 0", length, ok, 1)
	}
}

func checkCycle(t *testing.T, r impl.Register, state int64) {
	t.Helper()
	wantBefore, wantLength := slowCycle(func(s int64) int64 { next, _ := slowStep(r, s); return next }, state)
	before, length, ok := impl.RegisterCycle(r, state)
	expect(t, fmt.Sprint("steps before the cycle of ", r, " from ", state), before, ok, wantBefore)
	expect(t, fmt.Sprint("length of the cycle of ", r, " from ", state), length, ok, wantLength)
}

// Promise 3: periods are those of polynomials. From the state with the
// greatest bit alone, a register has the period of its whole polynomial: the
// power of x in it is the number of steps before the cycle, and the order of
// x modulo the rest is the length.
func TestRegisterPeriodsAreThoseOfPolynomials(t *testing.T) {
	for _, r := range append(smallRegisters(7), wideRegisters()...) {
		p, ok := impl.PolyOf(r)
		expect(t, fmt.Sprint("the polynomial of ", r), p, ok, 1<<r.Width+r.Taps)
		tail, rest := int64(0), p
		for rest%2 == 0 {
			tail, rest = tail+1, rest/2
		}
		want := int64(1)
		if rest > 1 {
			want, _ = impl.OrderOfX(rest)
		}
		before, length, ok := impl.RegisterCycle(r, 1<<r.Width>>1)
		expect(t, fmt.Sprint("steps before the cycle of ", r), before, ok, tail)
		expect(t, fmt.Sprint("the period of ", r), length, ok, want)
		if r.Width > 0 && impl.IsPrimitive(p) {
			_, all, ok := impl.RegisterCycle(r, 1)
			expect(t, fmt.Sprint("the period of the primitive ", r), all, ok, 1<<r.Width-1)
		}
	}
}

func TestRegisterExamples(t *testing.T) {
	r := impl.Register{Width: 3, Taps: 3}
	bits, ok := impl.RegisterBits(r, 1, 7)
	expect(t, "RegisterBits of the example", bits, ok, "1001011")
	p, ok := impl.PolyOf(r)
	expect(t, "PolyOf of the example", p, ok, 11)
	if !impl.IsPrimitive(p) {
		t.Error("the polynomial of the example is not primitive")
	}
	list, ok := impl.AgreementsOf(bits)
	expectList(t, "AgreementsOf the example", list, ok, []int64{7, -1, -1, -1, -1, -1, -1})
	shortest, _, ok := impl.ShortestRegister("0001")
	expect(t, "ShortestRegister of 0001", shortest.Width, ok, 4)
	least, ok := impl.LeastAllWords(3)
	expect(t, "LeastAllWords of 3", least, ok, "00010111")
}

// checkRegisterFails requires that no function accepts the register at the state.
func checkRegisterFails(t *testing.T, r impl.Register, state int64) {
	t.Helper()
	what := fmt.Sprint("register ", r, " at ", state)
	next, bit, ok := impl.StepRegister(r, state)
	expectFail(t, what, [2]int64{next, bit}, ok)
	bits, ok := impl.RegisterBits(r, state, 1)
	expectFail(t, what, bits, ok)
	far, ok := impl.JumpRegister(r, state, 1)
	expectFail(t, what, far, ok)
	before, length, ok := impl.RegisterCycle(r, state)
	expectFail(t, what, [2]int64{before, length}, ok)
}

func TestRegistersFail(t *testing.T) {
	for _, r := range registerPool() {
		states := []int64{-1, math.MinInt64, 1 << 16, math.MaxInt64}
		if impl.ValidRegister(r) {
			states = append(states, 1<<r.Width)
		} else {
			states = append(states, 0, 1)
			p, ok := impl.PolyOf(r)
			expectFail(t, fmt.Sprint("PolyOf ", r), p, ok)
		}
		for _, state := range states {
			checkRegisterFails(t, r, state)
		}
	}
	for _, r := range []impl.Register{{}, {Width: 3, Taps: 3}} {
		for _, count := range []int64{-1, 401, math.MinInt64, math.MaxInt64} {
			bits, ok := impl.RegisterBits(r, 0, count)
			expectFail(t, "RegisterBits with a wrong count", bits, ok)
		}
		for _, n := range []int64{-1, maxJump + 1, math.MinInt64, math.MaxInt64} {
			far, ok := impl.JumpRegister(r, 0, n)
			expectFail(t, "JumpRegister by a wrong number", far, ok)
		}
	}
}
