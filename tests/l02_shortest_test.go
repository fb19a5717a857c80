package tests

import (
	"fmt"
	"slices"
	"strings"
	"testing"

	"loop.example/g01121/impl"
)

// A made text is one that registers output first.
type made struct {
	register impl.Register // the first of the least width
	state    int64
	others   int // of the same width
}

// allTexts returns for each text of at most as many bits as count by which
// registers it is made, by running them all from all states.
func allTexts(count int) map[string]made {
	texts := map[string]made{}
	for _, r := range smallRegisters(int64(count)) {
		for state := range int64(1) << r.Width {
			text, at := "", state
			for len(text) <= count {
				first, ok := texts[text]
				if !ok {
					texts[text] = made{r, state, 0}
				} else if first.register.Width == r.Width && first.register != r {
					first.others++
					texts[text] = first
				}
				next, bit := slowStep(r, at)
				text, at = text+string(rune('0'+bit)), next
			}
		}
	}
	return texts
}

// Promise 3: no register is shorter than the shortest one.
func TestShortestOfAllRegisters(t *testing.T) {
	const count = 8
	texts := allTexts(count)
	if len(texts) != 2<<count-1 {
		t.Fatalf("%d texts are made", len(texts))
	}
	for text, want := range texts {
		r, state, ok := impl.ShortestRegister(text)
		expect(t, "ShortestRegister "+text, r, ok, want.register)
		expect(t, "the state behind "+text, state, ok, want.state)
		if 2*r.Width <= int64(len(text)) && want.others > 0 {
			t.Errorf("%s is made by %d other registers of the width %d", text, want.others, r.Width)
		}
		widths, ok := impl.WidthsOf(text)
		var wantWidths []int64
		for i := range text {
			wantWidths = append(wantWidths, texts[text[:i+1]].register.Width)
		}
		expectList(t, "WidthsOf "+text, widths, ok, wantWidths)
	}
}

// widthsBySynthesis returns the least widths by the algorithm of Berlekamp and Massey.
func widthsBySynthesis(text string) []int64 {
	var widths []int64
	c, b, width, gap := uint64(1), uint64(1), int64(0), 1
	for n := range len(text) {
		wrong := byte(0)
		for i := range n + 1 {
			wrong ^= byte(c>>i&1) & (text[n-i] - '0')
		}
		switch {
		case wrong == 0:
			gap++
		case 2*width <= int64(n):
			c, b, width, gap = c^b<<gap, c, int64(n)+1-width, 1
		default:
			c, gap = c^b<<gap, gap+1
		}
		widths = append(widths, width)
	}
	return widths
}

// hardTexts returns texts with up to MaxShort bits.
func hardTexts() []string {
	zeros := strings.Repeat("0", 32)
	list := []string{"", "0", "1", zeros, strings.Repeat("1", 32), strings.Repeat("01", 16), strings.Repeat("0010111", 5)[:32], zeros[:31] + "1", zeros[:16] + "1", zeros[:15] + "1", zeros[:15] + "1" + zeros[:16], zeros[:16] + "1" + zeros[:15], "1" + zeros[:31], "1" + zeros[:30] + "1"}
	d := draws(41)
	for length := range 33 {
		for range 12 {
			list = append(list, d.bits(length))
		}
	}
	for _, r := range append(smallRegisters(3), wideRegisters()...) {
		for _, state := range someStates(r, &d) {
			text, _ := impl.RegisterBits(r, state, 32)
			list = append(list, text)
		}
	}
	return list
}

func TestShortestOfLongTexts(t *testing.T) {
	for _, text := range hardTexts() {
		want := widthsBySynthesis(text)
		widths, ok := impl.WidthsOf(text)
		expectList(t, "WidthsOf "+text, widths, ok, want)
		width := int64(0)
		if len(text) > 0 {
			width = want[len(text)-1]
		}
		r, state, ok := impl.ShortestRegister(text)
		if width > impl.MaxWidth {
			expectFail(t, "ShortestRegister "+text, r, ok)
			expectFail(t, "the state behind "+text, state, ok)
			continue
		}
		expect(t, "ShortestRegister "+text, r.Width, ok, width)
		again, ok := impl.RegisterBits(r, state, int64(len(text)))
		expect(t, fmt.Sprint("the bits of ", r), again, ok, text)
		checkLeastTaps(t, r, state, text)
	}
}

// checkLeastTaps requires that no lesser taps make the text.
func checkLeastTaps(t *testing.T, r impl.Register, state int64, text string) {
	t.Helper()
	for taps := range r.Taps {
		other, at := impl.Register{Width: r.Width, Taps: taps}, state
		same := true
		for i := 0; i < len(text) && same; i++ {
			same = at&1 == int64(text[i]-'0')
			at, _, _ = impl.StepRegister(other, at)
		}
		if same {
			t.Errorf("ShortestRegister %s: got the taps %d, but %d make it", text, r.Taps, taps)
			return
		}
	}
}

// If a least width is at most half of the number of the bits, there is just
// one such register, so that it is found again from what it outputs.
func TestShortestFindsRegisters(t *testing.T) {
	d := draws(42)
	for _, r := range append(smallRegisters(5), wideRegisters()...) {
		for _, state := range someStates(r, &d) {
			text, _ := impl.RegisterBits(r, state, 32)
			found, at, ok := impl.ShortestRegister(text)
			if !ok || found.Width > r.Width {
				t.Errorf("ShortestRegister of the bits of %v is %v and %v", r, found, ok)
			}
			if found.Width == r.Width {
				expect(t, "the register of "+text, found, ok, r)
				expect(t, "the state of "+text, at, ok, state)
			}
		}
	}
}

func TestShortestFails(t *testing.T) {
	zeros := strings.Repeat("0", 33)
	for _, text := range []string{zeros, strings.Repeat("1", 33), strings.Repeat("01", 200), strings.Repeat("0", 401), "2", "01a", " ", "1 ", "é", "\xff", "0\n"} {
		r, state, ok := impl.ShortestRegister(text)
		expectFail(t, "ShortestRegister "+text, r, ok)
		expectFail(t, "the state behind "+text, state, ok)
		widths, ok := impl.WidthsOf(text)
		expectNoList(t, "WidthsOf "+text, widths, ok)
	}
	r, state, ok := impl.ShortestRegister(zeros[:15] + "1")
	expect(t, "the register with the greatest width", r, ok, impl.Register{Width: 16})
	expect(t, "its state", state, ok, 1<<15)
	for count := 16; count < 32; count++ {
		r, state, ok := impl.ShortestRegister(zeros[:count] + "1")
		expectFail(t, "too great a width", r, ok)
		expectFail(t, "too great a width", state, ok)
		widths, ok := impl.WidthsOf(zeros[:count] + "1")
		expectList(t, "WidthsOf great widths", widths, ok, append(slices.Repeat([]int64{0}, count), int64(count+1)))
	}
}
