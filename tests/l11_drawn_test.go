package tests

import (
	"fmt"
	"math"
	"slices"
	"testing"

	"loop.example/g01121/impl"
)

// slowDrawn draws a number for each number of faces.
func slowDrawn(s impl.Stream, faces []int64) ([]int64, impl.Stream, bool) {
	numbers := []int64{}
	for _, n := range faces {
		text, _ := slowTake(s, 400)
		number, used, ok := slowDice(n, text)
		if !ok {
			return nil, impl.Stream{}, false
		}
		numbers = append(numbers, number)
		_, s = slowTake(s, used)
	}
	return numbers, s, true
}

// endlessOnes outputs 1 in each step, so that most dice cannot be rolled.
func endlessOnes() []impl.Stream {
	return []impl.Stream{
		ofRegister(impl.Register{Width: 1, Taps: 1}, 1), ofRegister(impl.Register{Width: 16, Taps: 1}, 65535),
		ofCongruence(impl.Congruence{Modulus: 2, Add: 1}, 0), ofCongruence(impl.Congruence{Modulus: 100000, Factor: 1}, 50000),
	}
}

// lateOnes outputs 0, and then 1 in each step.
func lateOnes() impl.Stream { return ofRegister(impl.Register{Width: 2, Taps: 2}, 2) }

func expectFaces(t *testing.T, s impl.Stream, faces, count int64) bool {
	t.Helper()
	what := fmt.Sprint("FacesOf ", s, " ", faces, " ", count)
	numbers, behind, drawn := slowDrawn(s, slices.Repeat([]int64{faces}, int(count)))
	got, next, ok := impl.FacesOf(s, faces, count)
	if !drawn {
		expectNoList(t, what, got, ok)
		expectFail(t, what, next, ok)
		return false
	}
	expectList(t, what, got, ok, numbers)
	expect(t, what, next, ok, behind)
	return true
}

func TestDrawnFaces(t *testing.T) {
	d := draws(1105)
	drawn, failed := 0, 0
	for _, s := range slices.Concat(mixedStreams(), endlessOnes(), []impl.Stream{{}, lateOnes()}) {
		for _, faces := range []int64{1, 2, 3, 1 + d.below(16), 15, 16} {
			for _, count := range []int64{0, 1, 2 + d.below(6)} {
				if expectFaces(t, s, faces, count) {
					drawn++
				} else {
					failed++
				}
			}
		}
	}
	for _, s := range bigStreams()[:30] {
		expectFaces(t, s, 1+d.below(16), 40)
	}
	if drawn < 100 || failed < 20 {
		t.Errorf("%d lists are drawn, and %d fail", drawn, failed)
	}
}

func TestFacesThatFail(t *testing.T) {
	for _, s := range endlessOnes() {
		for faces := int64(1); faces <= 16; faces++ {
			// A power of 2 is never rejected.
			if got := expectFaces(t, s, faces, 1); got != (faces&(faces-1) == 0) {
				t.Errorf("FacesOf %v %d: succeeds: %v", s, faces, got)
			}
			expectFaces(t, s, faces, 0)
		}
	}
	got, behind, ok := impl.FacesOf(lateOnes(), 3, 1)
	expectList(t, "FacesOf with 01", got, ok, []int64{1})
	expect(t, "FacesOf with 01", behind.State, ok, 3)
	got, behind, ok = impl.FacesOf(lateOnes(), 3, 2)
	expectNoList(t, "FacesOf with 01 and more", got, ok)
	expectFail(t, "FacesOf with 01 and more", behind, ok)
}

func TestFacesUseTheLastBits(t *testing.T) {
	// A number below 3 is told by two bits that are not both 1. The first 0
	// comes after as many bits as the states up to the greatest one are.
	c := impl.Congruence{Modulus: 100000, Factor: 1, Add: 1}
	expectDecided(t, ofCongruence(c, 99999-398), true)
	expectDecided(t, ofCongruence(c, 99999-399), true)
	expectDecided(t, ofCongruence(c, 99999-400), false)
	expectDecided(t, ofCongruence(c, 99999-401), false)
}

func expectDecided(t *testing.T, s impl.Stream, decided bool) {
	t.Helper()
	if expectFaces(t, s, 3, 1) != decided {
		t.Errorf("FacesOf %v 3 1: it should be %v that it succeeds", s, decided)
	}
}

func expectOrder(t *testing.T, s impl.Stream, n int64) bool {
	t.Helper()
	what := fmt.Sprint("OrderOf ", s, " ", n)
	var faces []int64
	for i := n - 1; i >= 1; i-- {
		faces = append(faces, i+1)
	}
	choices, behind, drawn := slowDrawn(s, faces)
	got, next, ok := impl.OrderOf(s, n)
	if !drawn {
		expectNoList(t, what, got, ok)
		expectFail(t, what, next, ok)
		return false
	}
	expectList(t, what, got, ok, shufflers()[0].slow(n, choices))
	expect(t, what, next, ok, behind)
	return true
}

func TestDrawnOrders(t *testing.T) {
	d := draws(1106)
	drawn, failed := 0, 0
	for _, s := range slices.Concat(mixedStreams(), endlessOnes(), []impl.Stream{{}, lateOnes()}) {
		for _, n := range []int64{1, 2, 3, 2 + d.below(11), 12} {
			if expectOrder(t, s, n) {
				drawn++
			} else {
				failed++
			}
		}
	}
	if drawn < 100 || failed < 20 {
		t.Errorf("%d orders are drawn, and %d fail", drawn, failed)
	}
	order, behind, ok := impl.OrderOf(lateOnes(), 3)
	expectList(t, "OrderOf with 01 and 1", order, ok, []int64{0, 2, 1})
	expect(t, "OrderOf with 01 and 1", behind.State, ok, 3)
	order, behind, ok = impl.OrderOf(lateOnes(), 4)
	expectNoList(t, "OrderOf with 01, and nothing for 3 faces", order, ok)
	expectFail(t, "OrderOf with 01, and nothing for 3 faces", behind, ok)
}

// Promise 12: over the cycle of a register, all faces come up as often as the
// states can tell.
func TestDrawnOverACycle(t *testing.T) {
	counts := map[int64]int64{}
	for state := range int64(65535) {
		faces, _, _ := impl.FacesOf(ofRegister(impl.Register{Width: 16, Taps: 4107}, state+1), 4, 1)
		counts[faces[0]]++
	}
	// The state 0, which is no part of the cycle, would draw 0.
	for face, want := range []int64{16383, 16384, 16384, 16384} {
		if counts[int64(face)] != want {
			t.Errorf("the face %d comes up %d times, want %d", face, counts[int64(face)], want)
		}
	}
}

func TestStreamLevels(t *testing.T) {
	for _, s := range mixedStreams() {
		for _, count := range []int64{1, 2, 9, 49, 50} {
			text, _ := slowTake(s, count)
			want, _ := impl.TestLevels(text)
			levels, ok := impl.StreamLevels(s, count)
			if !ok || len(levels) != 3 || !slices.Equal(levels, want) {
				t.Errorf("StreamLevels %v %d: got %v and %v, want %v", s, count, levels, ok, want)
			}
		}
		for _, count := range []int64{math.MinInt64, -1, 0, 51, 52, 400, 401, math.MaxInt64} {
			levels, ok := impl.StreamLevels(s, count)
			expectNoFractions(t, fmt.Sprint("StreamLevels ", s, " ", count), levels, ok)
		}
	}
}
