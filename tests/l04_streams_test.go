package tests

import (
	"fmt"
	"math"
	"slices"
	"strings"
	"testing"

	"loop.example/g01121/impl"
)

// someStreams returns as many streams of as many bits.
func someStreams(count, length int, d *draws) []string {
	var streams []string
	for range count {
		streams = append(streams, d.bits(length))
	}
	return streams
}

// slowCombined looks up each value of the table.
func slowCombined(table string, streams []string, length int) string {
	var combined strings.Builder
	for t := range length {
		x := 0
		for i, stream := range streams {
			if stream[t] == '1' {
				x += 1 << i
			}
		}
		combined.WriteByte(table[x])
	}
	return combined.String()
}

func TestCombinedBits(t *testing.T) {
	d := draws(71)
	for i, table := range someTables() {
		inputs := inputsOf(table)
		if inputs == 0 {
			continue
		}
		for _, length := range []int{0, 1, 1 << inputs, i % 401, 399, 400} {
			streams := someStreams(inputs, length, &d)
			got, ok := impl.CombineBits(table, streams)
			expect(t, fmt.Sprint("CombineBits ", table, " ", streams), got, ok, slowCombined(table, streams, length))
		}
	}
	// Streams that count up to all indices make the table itself.
	for _, table := range someTables() {
		var streams []string
		for i := range inputsOf(table) {
			streams = append(streams, sumTable(inputsOf(table), 1<<i, 0))
		}
		got, ok := impl.CombineBits(table, streams)
		if len(streams) == 0 {
			expect(t, "CombineBits without streams", got, ok, "")
		} else {
			expect(t, fmt.Sprint("CombineBits ", table, " ", streams), got, ok, table)
		}
	}
}

func TestCombineFails(t *testing.T) {
	bits, long := "0110", strings.Repeat("1", 401)
	for _, table := range wrongTables() {
		for count := range 8 {
			got, ok := impl.CombineBits(table, repeated(bits, count))
			expectFail(t, fmt.Sprintf("CombineBits %q of %d streams", table, count), got, ok)
			width, ok := impl.CombinedWidth(table, repeated[int64](1, count))
			expectFail(t, fmt.Sprintf("CombinedWidth %q of %d widths", table, count), width, ok)
		}
	}
	for inputs := range 7 {
		table := sumTable(inputs, 1<<inputs-1, 1)
		for count := range 9 {
			if count != inputs {
				for _, stream := range []string{bits, ""} {
					got, ok := impl.CombineBits(table, repeated(stream, count))
					expectFail(t, fmt.Sprint("CombineBits ", table, " of ", count, " streams"), got, ok)
				}
				width, ok := impl.CombinedWidth(table, repeated[int64](1, count))
				expectFail(t, fmt.Sprint("CombinedWidth ", table, " of ", count, " widths"), width, ok)
			}
		}
		for i := range inputs {
			for _, wrong := range []string{"", "011", "01100", "0112", "011 ", "é11", "\xff110", long} {
				streams := repeated(bits, inputs)
				streams[i] = wrong
				got, ok := impl.CombineBits(table, streams)
				if inputs > 1 || strings.Trim(wrong, "01") != "" || wrong == long {
					expectFail(t, fmt.Sprint("CombineBits ", table, " ", streams), got, ok)
				} else {
					expect(t, fmt.Sprint("CombineBits ", table, " ", streams), got, ok, slowCombined(table, streams, len(wrong)))
				}
			}
			for _, wrong := range []int64{-1, 17, 64, math.MinInt64, math.MaxInt64} {
				widths := repeated[int64](16, inputs)
				widths[i] = wrong
				got, ok := impl.CombinedWidth(table, widths)
				expectFail(t, fmt.Sprint("CombinedWidth ", table, " ", widths), got, ok)
			}
		}
		if inputs > 0 {
			got, ok := impl.CombineBits(table, repeated(long, inputs))
			expectFail(t, "CombineBits of too many bits", got, ok)
		}
	}
}

// slowWidth adds up the products of the normal form, as the document tells it.
func slowWidth(table string, widths []int64) int64 {
	sum := int64(0)
	for u, bit := range slowForm(table) {
		product := int64(bit - '0')
		for i, width := range widths {
			if u&(1<<i) != 0 {
				product *= width
			}
		}
		sum += product
	}
	return sum
}

func TestCombinedWidths(t *testing.T) {
	d := draws(72)
	for _, table := range someTables() {
		inputs := inputsOf(table)
		lists := [][]int64{repeated[int64](0, inputs), repeated[int64](1, inputs), repeated[int64](16, inputs), nil, nil, nil}
		for i := 3; i < 6; i++ {
			for range inputs {
				lists[i] = append(lists[i], d.below(17))
			}
		}
		for _, widths := range lists {
			got, ok := impl.CombinedWidth(table, widths)
			expect(t, fmt.Sprint("CombinedWidth ", table, " ", widths), got, ok, slowWidth(table, widths))
		}
	}
	all := tableBy(6, func(x int) bool { return x == 0 }) // its normal form is 1 everywhere
	got, ok := impl.CombinedWidth(all, repeated[int64](16, 6))
	expect(t, "the greatest width", got, ok, 17*17*17*17*17*17)
}

// A register of the width that is told outputs what is combined.
func TestCombinedWidthIsEnough(t *testing.T) {
	registers := smallRegisters(3)
	d := draws(73)
	for inputs := range 4 {
		for _, table := range allTables(inputs) {
			for range 12 {
				widths, streams := []int64{}, []string{}
				for range inputs {
					r := registers[d.below(int64(len(registers)))]
					stream, _ := impl.RegisterBits(r, d.below(1<<r.Width), 32)
					widths, streams = append(widths, r.Width), append(streams, stream)
				}
				enough, _ := impl.CombinedWidth(table, widths)
				combined, _ := impl.CombineBits(table, streams)
				if needed, _ := impl.WidthsOf(combined); len(needed) > 0 && needed[31] > enough {
					t.Errorf("CombinedWidth %s %v is %d, but %s needs %d", table, widths, enough, combined, needed[31])
				}
			}
		}
	}
	// With primitive polynomials of widths without a common divisor, no width
	// is left over.
	three, two := impl.Register{Width: 3, Taps: 3}, impl.Register{Width: 2, Taps: 3}
	first, _ := impl.RegisterBits(three, 1, 32)
	second, _ := impl.RegisterBits(two, 1, 32)
	for table, want := range map[string]int64{"0001": 6, "0110": 5, "0111": 11, "1001": 6, "1000": 12} {
		enough, ok := impl.CombinedWidth(table, []int64{3, 2})
		expect(t, "CombinedWidth "+table, enough, ok, want)
		combined, _ := impl.CombineBits(table, []string{first, second})
		shortest, _, ok := impl.ShortestRegister(combined)
		expect(t, "the shortest register of "+combined, shortest.Width, ok, want)
	}
}

func TestShrunkBits(t *testing.T) {
	d := draws(74)
	for length := range 401 {
		for _, selected := range []string{strings.Repeat("0", length), strings.Repeat("1", length), d.bits(length)} {
			bits, want := d.bits(length), ""
			for i := range length {
				want += strings.Repeat(bits[i:i+1], strings.Count(selected[i:i+1], "1"))
			}
			got, ok := impl.ShrinkBits(selected, bits)
			expect(t, "ShrinkBits "+selected+" "+bits, got, ok, want)
		}
	}
	long := strings.Repeat("0", 401)
	for _, pair := range [][2]string{{"0", ""}, {"", "0"}, {"01", "011"}, {"011", "01"}, {"02", "01"}, {"01", "0a"}, {"é", "01"}, {"01", "é"}, {"\xff", "1"}, {long, long}, {long[1:], long}, {long, long[1:]}} {
		got, ok := impl.ShrinkBits(pair[0], pair[1])
		expectFail(t, fmt.Sprintf("ShrinkBits %q", pair), got, ok)
	}
}

// slowBest runs the register from each state.
func slowBest(r impl.Register, text string) ([]int64, int64) {
	var best []int64
	most := int64(-1)
	for start := range int64(1) << r.Width {
		agree, state := int64(0), start
		for _, bit := range text {
			next, output := slowStep(r, state)
			if output == int64(bit-'0') {
				agree++
			}
			state = next
		}
		if agree > most {
			best, most = nil, agree
		}
		if agree == most {
			best = append(best, start)
		}
	}
	return best, most
}

func checkBest(t *testing.T, r impl.Register, text string) {
	t.Helper()
	wantStates, wantMost := slowBest(r, text)
	states, most, ok := impl.BestStates(r, text)
	what := fmt.Sprint("BestStates ", r, " ", text)
	expectList(t, what, states, ok, wantStates)
	expect(t, what, most, ok, wantMost)
}

func TestBestStates(t *testing.T) {
	d := draws(75)
	for _, r := range smallRegisters(5) {
		for _, length := range []int{0, 1, 2, int(r.Width), 2 * int(r.Width), 20, 31} {
			checkBest(t, r, d.bits(length))
		}
	}
	for _, taps := range []int64{0, 1, 9, 512, 1023, d.below(1024)} {
		r := impl.Register{Width: 10, Taps: taps}
		for _, text := range []string{"", "1", d.bits(9), d.bits(10), d.bits(60), d.bits(400), strings.Repeat("1", 400), strings.Repeat("0", 400)} {
			checkBest(t, r, text)
		}
	}
}

// flipped returns bits with some of them changed.
func flipped(text string, count int, d *draws) string {
	bits := []byte(text)
	for range count {
		bits[d.below(int64(len(bits)))] ^= 1
	}
	return string(bits)
}

// Promise 5: the attack finds the state, also behind some wrong bits.
func TestAttackFindsStates(t *testing.T) {
	d := draws(76)
	for _, r := range []impl.Register{{Width: 3, Taps: 3}, {Width: 5, Taps: 5}, {Width: 7, Taps: 3}, {Width: 10, Taps: 9}} {
		for range 20 {
			state := 1 + d.below(1<<r.Width-1)
			text, _ := impl.RegisterBits(r, state, 400)
			states, most, ok := impl.BestStates(r, text)
			expectList(t, fmt.Sprint("BestStates ", r, " ", text), states, ok, []int64{state})
			expect(t, "how many bits agree", most, ok, 400)
			wrong := flipped(text, 60, &d)
			states, most, ok = impl.BestStates(r, wrong)
			expectList(t, fmt.Sprint("BestStates ", r, " ", wrong), states, ok, []int64{state})
			differ, _ := impl.XorBits(text, wrong)
			expect(t, "how many bits agree", most, ok, int64(strings.Count(differ, "0")))
		}
	}
}

// One register selects one of two others, each of which is found alone.
func TestAttackOnSelection(t *testing.T) {
	registers := []impl.Register{{Width: 9, Taps: 17}, {Width: 10, Taps: 9}, {Width: 7, Taps: 3}}
	table := tableBy(3, func(x int) bool { return (x>>(1-x>>2))&1 == 1 })
	d := draws(77)
	for range 10 {
		var states []int64
		var streams []string
		for _, r := range registers {
			state := 1 + d.below(1<<r.Width-1)
			stream, _ := impl.RegisterBits(r, state, 400)
			states, streams = append(states, state), append(streams, stream)
		}
		combined, _ := impl.CombineBits(table, streams)
		for i, r := range registers[:2] {
			found, _, ok := impl.BestStates(r, combined)
			expectList(t, fmt.Sprint("the states of ", r), found, ok, []int64{states[i]})
		}
	}
}

// States that agree equally often, and registers without bits.
func TestManyBestStates(t *testing.T) {
	var all []int64
	for state := range int64(1024) {
		all = append(all, state)
	}
	for _, text := range []string{"", strings.Repeat("0", 400), strings.Repeat("1", 400), "0110", "1"} {
		states, most, ok := impl.BestStates(impl.Register{}, text)
		expectList(t, "BestStates with the width 0 "+text, states, ok, []int64{0})
		expect(t, "BestStates with the width 0 "+text, most, ok, int64(strings.Count(text, "0")))
	}
	for _, taps := range []int64{0, 9, 1023} {
		states, most, ok := impl.BestStates(impl.Register{Width: 10, Taps: taps}, "")
		expectList(t, "BestStates without bits", states, ok, all)
		expect(t, "BestStates without bits", most, ok, 0)
		states, most, ok = impl.BestStates(impl.Register{Width: 10, Taps: taps}, "1")
		odd := slices.DeleteFunc(slices.Clone(all), func(state int64) bool { return state%2 == 0 })
		expectList(t, "BestStates with one bit", states, ok, odd)
		expect(t, "BestStates with one bit", most, ok, 1)
	}
}

func TestBestStatesFail(t *testing.T) {
	long := strings.Repeat("0", 401)
	for _, r := range registerPool() {
		for _, text := range []string{"", "1001011", strings.Repeat("1", 400), "2", "01a", "é", "\xff", " ", long} {
			states, most, ok := impl.BestStates(r, text)
			if impl.ValidRegister(r) && r.Width <= 10 && strings.Trim(text, "01") == "" && text != long {
				wantStates, wantMost := slowBest(r, text)
				expectList(t, fmt.Sprint("BestStates ", r), states, ok, wantStates)
				expect(t, fmt.Sprint("BestStates ", r), most, ok, wantMost)
			} else {
				expectNoList(t, fmt.Sprint("BestStates ", r), states, ok)
				expectFail(t, fmt.Sprint("BestStates ", r), most, ok)
			}
		}
	}
	for width := int64(11); width <= 20; width++ {
		states, most, ok := impl.BestStates(impl.Register{Width: width, Taps: 1}, "1")
		expectNoList(t, "BestStates with too great a width", states, ok)
		expectFail(t, "BestStates with too great a width", most, ok)
	}
}

func TestStreamExamples(t *testing.T) {
	got, ok := impl.CombineBits("0110", []string{"0011", "0101"})
	expect(t, "CombineBits of a sum", got, ok, "0110")
	got, ok = impl.CombineBits("0010", []string{"0011", "0101"})
	expect(t, "CombineBits of the input 1 without the input 0", got, ok, "0100")
	width, ok := impl.CombinedWidth("00010111", []int64{2, 3, 4})
	expect(t, "CombinedWidth of a majority", width, ok, 26)
	for table, want := range map[string]int64{"0": 0, "1": 1} {
		width, ok = impl.CombinedWidth(table, nil)
		expect(t, "CombinedWidth without inputs", width, ok, want)
		got, ok = impl.CombineBits(table, nil)
		expect(t, "CombineBits without inputs", got, ok, "")
	}
	got, ok = impl.ShrinkBits("0110", "1011")
	expect(t, "ShrinkBits", got, ok, "01")
	got, ok = impl.ShrinkBits("", "")
	expect(t, "ShrinkBits of no bits", got, ok, "")
	states, most, ok := impl.BestStates(impl.Register{Width: 3, Taps: 3}, "1101011")
	expectList(t, "BestStates", states, ok, []int64{1})
	expect(t, "BestStates", most, ok, 6)
}
