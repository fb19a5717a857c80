package tests

import (
	"fmt"
	"math"
	"slices"
	"strings"
	"testing"

	"loop.example/g01121/impl"
)

func ofRegister(r impl.Register, state int64) impl.Stream {
	return impl.Stream{Kind: impl.StreamRegister, Register: r, State: state}
}

func ofCongruence(c impl.Congruence, state int64) impl.Stream {
	return impl.Stream{Kind: impl.StreamCongruence, Congruence: c, State: state}
}

// slowNextStream makes a step as the document tells it.
func slowNextStream(s impl.Stream) (impl.Stream, byte) {
	if s.Kind == impl.StreamRegister {
		next, output := slowStep(s.Register, s.State)
		s.State = next
		return s, "01"[output]
	}
	s.State = slowNext(s.Congruence, s.State)
	if 2*s.State >= s.Congruence.Modulus {
		return s, '1'
	}
	return s, '0'
}

func slowTake(s impl.Stream, count int64) (string, impl.Stream) {
	var text strings.Builder
	for range count {
		next, bit := slowNextStream(s)
		text.WriteByte(bit)
		s = next
	}
	return text.String(), s
}

// way has the states of a stream one after another, up to the first one that
// comes again, and how many of them come before the cycle.
type way struct {
	states []int64
	before int64
}

func wayOf(s impl.Stream) way {
	seen := map[int64]int64{}
	var states []int64
	for {
		if before, ok := seen[s.State]; ok {
			return way{states, before}
		}
		seen[s.State] = int64(len(states))
		states = append(states, s.State)
		s, _ = slowNextStream(s)
	}
}

func (w way) cycle() int64 { return int64(len(w.states)) - w.before }

// after returns the state after any number of steps.
func (w way) after(steps int64) int64 {
	if steps > w.before {
		steps = w.before + (steps-w.before)%w.cycle()
	}
	return w.states[steps]
}

// smallStreams returns all streams of small generators.
func smallStreams() []impl.Stream {
	var list []impl.Stream
	for _, r := range smallRegisters(4) {
		for state := range int64(1) << r.Width {
			list = append(list, ofRegister(r, state))
		}
	}
	for _, c := range smallCongruences(6) {
		for state := range c.Modulus {
			list = append(list, ofCongruence(c, state))
		}
	}
	return list
}

// bigStreams returns streams of the greatest generators, also at their least
// and greatest states.
func bigStreams() []impl.Stream {
	d := draws(1101)
	var list []impl.Stream
	for _, r := range wideRegisters() {
		for _, state := range someStates(r, &d) {
			list = append(list, ofRegister(r, state))
		}
	}
	for _, c := range bigCongruences() {
		for _, state := range someOfStates(c, &d) {
			list = append(list, ofCongruence(c, state))
		}
	}
	return list
}

// mixedStreams returns some small and some big streams.
func mixedStreams() []impl.Stream {
	var list []impl.Stream
	for i, s := range smallStreams() {
		if i%7 == 0 {
			list = append(list, s)
		}
	}
	for i, s := range bigStreams() {
		if i%3 == 0 {
			list = append(list, s)
		}
	}
	return list
}

// exampleStreams are those of the document.
func exampleStreams() (r, c impl.Stream) {
	return ofRegister(impl.Register{Width: 3, Taps: 3}, 1), ofCongruence(impl.Congruence{Modulus: 10, Factor: 3, Add: 1}, 0)
}

// wrongStates returns streams with states that their generators do not have.
func wrongStates() []impl.Stream {
	var list []impl.Stream
	for _, s := range append(exampleStreamList(), ofRegister(impl.Register{}, 0), ofRegister(impl.Register{Width: 16, Taps: 4107}, 0), ofCongruence(impl.Congruence{Modulus: 100000, Factor: 21, Add: 3}, 0), ofCongruence(impl.Congruence{Modulus: 2}, 0)) {
		end := s.Congruence.Modulus
		if s.Kind == impl.StreamRegister {
			end = int64(1) << s.Register.Width
		}
		for _, state := range []int64{-1, end, end + 1, 100000, 1 << 32, math.MinInt64, math.MaxInt64} {
			s.State = state
			list = append(list, s)
		}
	}
	return list
}

func exampleStreamList() []impl.Stream {
	r, c := exampleStreams()
	return []impl.Stream{r, c}
}

// wrongStreams returns streams that are not valid, each for one reason.
func wrongStreams() []impl.Stream {
	r, c := exampleStreams()
	both := impl.Stream{Register: r.Register, Congruence: c.Congruence, State: 1}
	list := []impl.Stream{both, {Kind: impl.StreamCongruence, Register: r.Register, Congruence: c.Congruence, State: 1}}
	for _, kind := range []int64{-1, 1, 2, 3, math.MinInt64, math.MaxInt64} {
		list = append(list, impl.Stream{Kind: kind}, impl.Stream{Kind: kind, Register: r.Register, State: 1})
	}
	for _, kind := range []int64{-1, 0, 2, 3, math.MinInt64, math.MaxInt64} {
		list = append(list, impl.Stream{Kind: kind, Congruence: c.Congruence})
	}
	for _, other := range []impl.Congruence{{Modulus: 1}, {Factor: 1}, {Add: 1}, {Modulus: 2}, {Modulus: -1}, {Add: math.MinInt64}} {
		list = append(list, impl.Stream{Congruence: other}, impl.Stream{Register: r.Register, Congruence: other, State: 1})
	}
	for _, other := range []impl.Register{{Width: 1}, {Taps: 1}, {Width: 3, Taps: 3}, {Width: -1}, {Taps: math.MaxInt64}} {
		list = append(list, impl.Stream{Kind: impl.StreamCongruence, Register: other, Congruence: c.Congruence})
	}
	for _, register := range registerPool() {
		if !impl.ValidRegister(register) {
			list = append(list, ofRegister(register, 0))
		}
	}
	for _, congruence := range congruencePool() {
		if !impl.ValidCongruence(congruence) {
			list = append(list, ofCongruence(congruence, 0))
		}
	}
	return append(list, wrongStates()...)
}

func TestStreamLimits(t *testing.T) {
	got := []int64{impl.MaxSplit, impl.MaxLength, impl.MaxFacesDrawn, impl.MaxNamed, impl.MaxScript, impl.StreamRegister, impl.StreamCongruence}
	if want := []int64{8, 1000000, 40, 6, 4000, 0, 1}; !slices.Equal(got, want) {
		t.Errorf("got %v, want %v", got, want)
	}
}

func TestGeneratorExamples(t *testing.T) {
	r, c := exampleStreams()
	expectTaken(t, r, 7, "1001011", r)
	expectTaken(t, c, 4, "0000", c)
	before, length, ok := impl.StreamCycle(r)
	expect(t, "StreamCycle of the register", [2]int64{before, length}, ok, [2]int64{0, 7})
	for count, state := range []int64{0, 1, 4, 3, 0} {
		skipped, ok := impl.SkipStream(c, int64(count))
		expect(t, fmt.Sprint("SkipStream of the congruence by ", count), skipped.State, ok, state)
	}
	apart, ok := impl.AreApart(c, 2, 2)
	expect(t, "AreApart of two parts", apart, ok, true)
	apart, ok = impl.AreApart(c, 3, 2)
	expect(t, "AreApart of three parts", apart, ok, false)
}

func TestValidStreams(t *testing.T) {
	for _, s := range slices.Concat(smallStreams(), bigStreams(), endlessOnes(), []impl.Stream{{}, lateOnes()}) {
		if !impl.ValidStream(s) {
			t.Errorf("%v is not valid", s)
		}
	}
	for _, s := range wrongStreams() {
		if impl.ValidStream(s) {
			t.Errorf("%v is valid", s)
		}
	}
}

func expectTaken(t *testing.T, s impl.Stream, count int64, text string, behind impl.Stream) {
	t.Helper()
	what := fmt.Sprint("TakeBits ", s, " ", count)
	got, next, ok := impl.TakeBits(s, count)
	expect(t, what, got, ok, text)
	expect(t, what, next, ok, behind)
}

func TestTakenBits(t *testing.T) {
	for _, s := range smallStreams() {
		for count := range int64(20) {
			text, behind := slowTake(s, count)
			expectTaken(t, s, count, text, behind)
		}
	}
	for _, s := range mixedStreams() {
		for _, count := range []int64{0, 1, 399, 400} {
			text, behind := slowTake(s, count)
			expectTaken(t, s, count, text, behind)
		}
	}
}

// Promise 12: what is taken at once is taken in pieces, and what is skipped is
// not taken.
func TestTakenInPieces(t *testing.T) {
	d := draws(1102)
	for _, s := range append(smallStreams(), bigStreams()...) {
		whole, behind, _ := impl.TakeBits(s, 400)
		first := d.below(401)
		start, middle, _ := impl.TakeBits(s, first)
		end, last, ok := impl.TakeBits(middle, 400-first)
		expect(t, fmt.Sprint("two pieces of ", s), start+end, ok, whole)
		expect(t, fmt.Sprint("the stream behind two pieces of ", s), last, ok, behind)
		skipped, ok := impl.SkipStream(s, first)
		expect(t, fmt.Sprint("SkipStream ", s, " ", first), skipped, ok, middle)
	}
}

func TestOutputsAreThoseOfGenerators(t *testing.T) {
	for _, s := range bigStreams() {
		text, behind, ok := impl.TakeBits(s, 64)
		what := fmt.Sprint("TakeBits ", s)
		if s.Kind == impl.StreamRegister {
			output, _ := impl.RegisterBits(s.Register, s.State, 64)
			expect(t, what, text, ok, output)
			continue
		}
		states, _ := impl.StatesOf(s.Congruence, s.State, 64)
		for i, state := range states {
			expect(t, what, text[i] == '1', ok, 2*state >= s.Congruence.Modulus)
		}
		expect(t, what, behind.State, ok, states[63])
	}
}

func TestSkippedStreams(t *testing.T) {
	d := draws(1103)
	for _, s := range smallStreams() {
		w := wayOf(s)
		for steps := range int64(30) {
			_, behind := slowTake(s, steps)
			skipped, ok := impl.SkipStream(s, steps)
			expect(t, fmt.Sprint("SkipStream ", s, " ", steps), skipped, ok, behind)
		}
		for _, steps := range []int64{maxJump, maxJump - 1, d.below(maxJump), d.below(1 << 20)} {
			want := s
			want.State = w.after(steps)
			skipped, ok := impl.SkipStream(s, steps)
			expect(t, fmt.Sprint("SkipStream ", s, " ", steps), skipped, ok, want)
		}
	}
	for _, s := range bigStreams() {
		first, second := d.below(maxJump), d.below(1000)
		far, _ := impl.SkipStream(s, first)
		_, behind := slowTake(far, second)
		skipped, ok := impl.SkipStream(s, first+second)
		expect(t, fmt.Sprint("SkipStream ", s, " ", first+second), skipped, ok, behind)
	}
}

func TestSkippingAllStates(t *testing.T) {
	// Each of these has one cycle of all states that it can have.
	r, c := ofRegister(impl.Register{Width: 16, Taps: 4107}, 1), ofCongruence(impl.Congruence{Modulus: 100000, Factor: 21, Add: 3}, 0)
	for s, length := range map[impl.Stream]int64{r: 65535, c: 100000} {
		for _, steps := range []int64{0, length, maxJump / length * length} {
			skipped, ok := impl.SkipStream(s, steps)
			expect(t, fmt.Sprint("SkipStream ", s, " ", steps), skipped, ok, s)
		}
	}
}

func TestStreamCycles(t *testing.T) {
	late := 0
	for _, s := range append(smallStreams(), bigStreams()...) {
		w := wayOf(s)
		before, length, ok := impl.StreamCycle(s)
		expect(t, fmt.Sprint("StreamCycle ", s), [2]int64{before, length}, ok, [2]int64{w.before, w.cycle()})
		if before > 1 {
			late++
		}
	}
	if late < 10 {
		t.Errorf("only %d cycles have several steps before them", late)
	}
}

func expectParts(t *testing.T, s impl.Stream, w way, parts, length int64) {
	t.Helper()
	what := fmt.Sprint("SplitStream ", s, " ", parts, " ", length)
	streams, ok := impl.SplitStream(s, parts, length)
	if !ok || int64(len(streams)) != parts {
		t.Errorf("%s: got %v and %v", what, streams, ok)
		return
	}
	for i, got := range streams {
		want := s
		want.State = w.after(int64(i) * length)
		expect(t, what, got, ok, want)
	}
}

func TestSplitStreams(t *testing.T) {
	d := draws(1104)
	for _, s := range slices.Concat(smallStreams(), mixedStreams(), endlessOnes()) {
		w := wayOf(s)
		for parts := int64(1); parts <= 8; parts++ {
			expectParts(t, s, w, parts, 1)
			expectParts(t, s, w, parts, 1+d.below(12))
			expectParts(t, s, w, parts, 1+d.below(1000000))
			expectParts(t, s, w, parts, 1000000)
		}
	}
}

// Promise 12: what the parts output, one after another, is what the stream
// outputs.
func TestPartsOutputTheStream(t *testing.T) {
	for _, s := range append(smallStreams(), bigStreams()...) {
		streams, ok := impl.SplitStream(s, 8, 50)
		text := ""
		for _, part := range streams {
			bits, _, _ := impl.TakeBits(part, 50)
			text += bits
		}
		whole, _, _ := impl.TakeBits(s, 400)
		expect(t, fmt.Sprint("the parts of ", s), text, ok, whole)
	}
}

// slowApart reports whether the first states, as many as count, are different.
func slowApart(s impl.Stream, count int64) bool {
	seen := map[int64]bool{}
	for range count {
		if seen[s.State] {
			return false
		}
		seen[s.State] = true
		s, _ = slowNextStream(s)
	}
	return true
}

func TestPartsOfSmallStreams(t *testing.T) {
	for _, s := range smallStreams() {
		for parts := int64(1); parts <= 8; parts++ {
			for length := int64(1); length <= 10; length++ {
				apart, ok := impl.AreApart(s, parts, length)
				expect(t, fmt.Sprint("AreApart ", s, " ", parts, " ", length), apart, ok, slowApart(s, parts*length))
			}
			apart, ok := impl.AreApart(s, parts, 1000000)
			expect(t, fmt.Sprint("AreApart ", s, " ", parts, " 1000000"), apart, ok, false)
		}
	}
}

func expectApart(t *testing.T, s impl.Stream, parts, length int64, want bool) {
	t.Helper()
	apart, ok := impl.AreApart(s, parts, length)
	expect(t, fmt.Sprint("AreApart ", s, " ", parts, " ", length), apart, ok, want)
}

func TestPartsOfBigStreams(t *testing.T) {
	for _, s := range mixedStreams() {
		different := int64(len(wayOf(s).states))
		for parts := int64(1); parts <= 8; parts++ {
			if most := different / parts; most > 0 {
				expectApart(t, s, parts, most, true)
			}
			expectApart(t, s, parts, different/parts+1, false)
			expectApart(t, s, parts, 1000000, false)
		}
	}
}

func TestPartsThatMeet(t *testing.T) {
	// A register that stays at its state, one that falls to 0 and stays there,
	// and one with a cycle of all states but 0.
	stays, falls := ofRegister(impl.Register{}, 0), ofRegister(impl.Register{Width: 16}, 32768)
	expectApart(t, stays, 1, 1, true)
	expectApart(t, stays, 2, 1, false)
	expectApart(t, stays, 1, 2, false)
	expectApart(t, falls, 1, 17, true)
	expectApart(t, falls, 1, 18, false)
	expectApart(t, falls, 8, 2, true)
	expectApart(t, falls, 6, 3, false)
	cycle := ofRegister(impl.Register{Width: 16, Taps: 4107}, 9)
	expectApart(t, cycle, 5, 13107, true)
	expectApart(t, cycle, 1, 65536, false)
	expectApart(t, cycle, 8, 8192, false)
	expectApart(t, cycle, 8, 8191, true)
	full := ofCongruence(impl.Congruence{Modulus: 100000, Factor: 21, Add: 3}, 99999)
	expectApart(t, full, 8, 12500, true)
	expectApart(t, full, 8, 12501, false)
	expectApart(t, full, 1, 100000, true)
	expectApart(t, full, 1, 100001, false)
}

func TestWrongNumbersForStreams(t *testing.T) {
	for _, s := range append(exampleStreamList(), impl.Stream{}) {
		for _, count := range []int64{math.MinInt64, -2, -1, 401, 402, 1 << 40, math.MaxInt64} {
			expectNotTaken(t, s, count)
		}
		for _, steps := range []int64{math.MinInt64, -2, -1, maxJump + 1, maxJump + 2, math.MaxInt64} {
			skipped, ok := impl.SkipStream(s, steps)
			expectFail(t, fmt.Sprint("SkipStream ", s, " ", steps), skipped, ok)
		}
		for _, parts := range []int64{math.MinInt64, -1, 0, 9, 10, 1 << 62, math.MaxInt64} {
			expectNotSplit(t, s, parts, 1)
			expectNotSplit(t, s, parts, 1000000)
		}
		for _, length := range []int64{math.MinInt64, -1, 0, 1000001, 1000002, 1 << 62, math.MaxInt64} {
			expectNotSplit(t, s, 1, length)
			expectNotSplit(t, s, 8, length)
		}
		for _, faces := range []int64{math.MinInt64, -1, 0, 17, 18, 1000000, math.MaxInt64} {
			expectNotDrawn(t, s, faces, 0)
			expectNotDrawn(t, s, faces, 1)
		}
		for _, count := range []int64{math.MinInt64, -1, 41, 42, 1 << 40, math.MaxInt64} {
			expectNotDrawn(t, s, 1, count)
			expectNotDrawn(t, s, 16, count)
		}
		for _, n := range []int64{math.MinInt64, -1, 0, 13, 14, 16, 1 << 40, math.MaxInt64} {
			expectNotOrdered(t, s, n)
		}
	}
}

func expectNotTaken(t *testing.T, s impl.Stream, count int64) {
	t.Helper()
	text, behind, ok := impl.TakeBits(s, count)
	expectFail(t, fmt.Sprint("TakeBits ", s, " ", count), text, ok)
	expectFail(t, fmt.Sprint("TakeBits ", s, " ", count), behind, ok)
}

func expectNotSplit(t *testing.T, s impl.Stream, parts, length int64) {
	t.Helper()
	what := fmt.Sprint(s, " ", parts, " ", length)
	streams, ok := impl.SplitStream(s, parts, length)
	if ok || len(streams) != 0 {
		t.Errorf("SplitStream %s: got %v and %v, want it to fail", what, streams, ok)
	}
	apart, ok := impl.AreApart(s, parts, length)
	expectFail(t, "AreApart "+what, apart, ok)
}

func expectNotDrawn(t *testing.T, s impl.Stream, faces, count int64) {
	t.Helper()
	what := fmt.Sprint("FacesOf ", s, " ", faces, " ", count)
	numbers, behind, ok := impl.FacesOf(s, faces, count)
	expectNoList(t, what, numbers, ok)
	expectFail(t, what, behind, ok)
}

func expectNotOrdered(t *testing.T, s impl.Stream, n int64) {
	t.Helper()
	what := fmt.Sprint("OrderOf ", s, " ", n)
	order, behind, ok := impl.OrderOf(s, n)
	expectNoList(t, what, order, ok)
	expectFail(t, what, behind, ok)
}

func TestWrongStreamsFail(t *testing.T) {
	for _, s := range wrongStreams() {
		for _, count := range []int64{0, 1, 2} {
			expectNotTaken(t, s, count)
			skipped, ok := impl.SkipStream(s, count)
			expectFail(t, fmt.Sprint("SkipStream ", s), skipped, ok)
			expectNotSplit(t, s, 1+count, 1)
			expectNotSplit(t, s, 1, 1+count)
			expectNotDrawn(t, s, 1, count)
			expectNotDrawn(t, s, 2, count)
			expectNotOrdered(t, s, count+1)
			levels, ok := impl.StreamLevels(s, count)
			expectNoFractions(t, fmt.Sprint("StreamLevels ", s), levels, ok)
		}
		before, length, ok := impl.StreamCycle(s)
		expectFail(t, fmt.Sprint("StreamCycle ", s), [2]int64{before, length}, ok)
		text, ok := impl.StreamText(s)
		expectFail(t, fmt.Sprint("StreamText ", s), text, ok)
	}
}
