package tests

import (
	"fmt"
	"math"
	"math/big"
	"slices"
	"strings"
	"testing"

	"loop.example/g01121/impl"
)

// fairLaw is a law of fair bits, and the number of bits that it is a law of.
type fairLaw struct {
	name   string
	law    func(n int64) (impl.Law, bool)
	number func(text string) int64
}

func slowOnes(text string) int64 { return int64(strings.Count(text, "1")) }

func slowRuns(text string) int64 {
	if text == "" {
		return 0
	}
	return 1 + slowPlaces(text, "01") + slowPlaces(text, "10")
}

// slowLongest looks for longer and longer runs.
func slowLongest(text string) int64 {
	length := 0
	for strings.Contains(text, strings.Repeat("0", length+1)) || strings.Contains(text, strings.Repeat("1", length+1)) {
		length++
	}
	return int64(length)
}

func slowPlaces(text, pattern string) int64 {
	places := int64(0)
	for i := 0; i+len(pattern) <= len(text); i++ {
		if text[i:i+len(pattern)] == pattern {
			places++
		}
	}
	return places
}

// textsOf returns all strings of as many bits, in order.
func textsOf(count int) []string {
	list := []string{""}
	for range count {
		var longer []string
		for _, text := range list {
			longer = append(longer, text+"0", text+"1")
		}
		list = longer
	}
	return list
}

// allPatterns returns all patterns that there are.
func allPatterns() []string {
	var list []string
	for length := 1; length <= 6; length++ {
		list = append(list, textsOf(length)...)
	}
	return list
}

func patternLaw(pattern string) fairLaw {
	return fairLaw{
		"PatternLaw " + pattern,
		func(n int64) (impl.Law, bool) { return impl.PatternLaw(n, pattern) },
		func(text string) int64 { return slowPlaces(text, pattern) },
	}
}

func testedLaws() []fairLaw {
	return []fairLaw{{"OnesLaw", impl.OnesLaw, slowOnes}, {"RunsLaw", impl.RunsLaw, slowRuns}, {"LongestLaw", impl.LongestLaw, slowLongest}}
}

// lawOfCases returns the law of a number that has each value in so many cases.
func lawOfCases(cases map[int64]int64) impl.Law {
	var values, weights []int64
	for value := range cases {
		values = append(values, value)
	}
	slices.Sort(values)
	for _, value := range values {
		weights = append(weights, cases[value])
	}
	return lawOfWeights(values, weights)
}

// Promise 6: the laws have the chances that counting all strings gives.
func TestFairLawsByCounting(t *testing.T) {
	laws := testedLaws()
	for _, pattern := range allPatterns() {
		laws = append(laws, patternLaw(pattern))
	}
	for n := 1; n <= 12; n++ {
		texts := textsOf(n)
		for _, f := range laws {
			cases := map[int64]int64{}
			for _, text := range texts {
				cases[f.number(text)]++
			}
			got, ok := f.law(int64(n))
			expectLaw(t, fmt.Sprint(f.name, " of ", n), got, ok, lawOfCases(cases))
		}
	}
}

// lawByReading counts all strings of n bits at once: those that have the same
// number, and go on in the same way, as their last bits are equal.
func lawByReading(n int, start string, added func(before string, bit byte) (string, int64)) impl.Law {
	type read struct {
		number int64
		last   string
	}
	reached := map[read]int64{{0, start}: 1}
	for range n {
		longer := map[read]int64{}
		for r, count := range reached {
			for _, bit := range []byte("01") {
				last, more := added(r.last, bit)
				longer[read{r.number + more, last}] += count
			}
		}
		reached = longer
	}
	cases := map[int64]int64{}
	for r, count := range reached {
		cases[r.number] += count
	}
	return lawOfCases(cases)
}

func TestLongPatternLaws(t *testing.T) {
	for _, pattern := range []string{"0", "1", "01", "11", "00", "101", "111", "0110", "10101", "010101", "000000", "111111", "110110", "100000", "011011", "001100"} {
		keep := len(pattern) - 1
		for _, n := range []int{12, 25, 49, 50} {
			want := lawByReading(n, "", func(before string, bit byte) (string, int64) {
				text := before + string(bit)
				return text[max(0, len(text)-keep):], slowPlaces(text, pattern)
			})
			got, ok := impl.PatternLaw(int64(n), pattern)
			expectLaw(t, fmt.Sprint("PatternLaw ", n, " ", pattern), got, ok, want)
		}
	}
}

func TestLongFairLaws(t *testing.T) {
	for n := 12; n <= 50; n++ {
		got, ok := impl.RunsLaw(int64(n))
		expectLaw(t, fmt.Sprint("RunsLaw ", n), got, ok, lawByReading(n, "", func(before string, bit byte) (string, int64) {
			if before == string(bit) {
				return before, 0
			}
			return string(bit), 1
		}))
		got, ok = impl.OnesLaw(int64(n))
		expectLaw(t, fmt.Sprint("OnesLaw ", n), got, ok, lawByReading(n, "", func(_ string, bit byte) (string, int64) {
			return "", int64(bit - '0')
		}))
	}
	// The longest run grows when the last run, as long as it, does so.
	for _, n := range []int{12, 25, 50} {
		type read struct{ longest, last int64 }
		reached := map[read]int64{{1, 1}: 2}
		for range n - 1 {
			longer := map[read]int64{}
			for r, count := range reached {
				longer[read{r.longest, 1}] += count
				longer[read{max(r.longest, r.last+1), r.last + 1}] += count
			}
			reached = longer
		}
		cases := map[int64]int64{}
		for r, count := range reached {
			cases[r.longest] += count
		}
		got, ok := impl.LongestLaw(int64(n))
		expectLaw(t, fmt.Sprint("LongestLaw ", n), got, ok, lawOfCases(cases))
	}
}

// momentsOfPattern follows from the chance of each place, and of each pair of
// places, which the bits decide that both have in common.
func momentsOfPattern(n int, pattern string) (mean, variance *big.Rat) {
	mean, squares, length := new(big.Rat), new(big.Rat), len(pattern)
	for i := range n - length + 1 {
		mean.Add(mean, big.NewRat(1, 1<<length))
		for j := range n - length + 1 {
			apart := max(i-j, j-i)
			if apart >= length {
				squares.Add(squares, big.NewRat(1, 1<<(2*length)))
			} else if pattern[apart:] == pattern[:length-apart] {
				squares.Add(squares, big.NewRat(1, 1<<(length+apart)))
			}
		}
	}
	return mean, squares.Sub(squares, new(big.Rat).Mul(mean, mean))
}

func TestMomentsOfFairLaws(t *testing.T) {
	for _, pattern := range allPatterns() {
		for _, n := range []int{len(pattern) - 1, len(pattern), 17, 50} {
			if n == 0 {
				continue
			}
			mean, variance := momentsOfPattern(n, pattern)
			l, ok := impl.PatternLaw(int64(n), pattern)
			if !ok {
				t.Errorf("PatternLaw %d %s fails", n, pattern)
			}
			got, ok := impl.MeanOf(l)
			expectRat(t, fmt.Sprint("MeanOf PatternLaw ", n, " ", pattern), got, ok, mean)
			got, ok = impl.VarianceOf(l)
			expectRat(t, fmt.Sprint("VarianceOf PatternLaw ", n, " ", pattern), got, ok, variance)
		}
	}
	for n := int64(1); n <= 50; n++ {
		ones, _ := impl.OnesLaw(n)
		runs, _ := impl.RunsLaw(n)
		for _, moments := range []struct {
			law  impl.Law
			want [2]*big.Rat
		}{{ones, [2]*big.Rat{big.NewRat(n, 2), big.NewRat(n, 4)}}, {runs, [2]*big.Rat{big.NewRat(n+1, 2), big.NewRat(n-1, 4)}}} {
			got, ok := impl.MeanOf(moments.law)
			expectRat(t, fmt.Sprint("MeanOf ", moments.law), got, ok, moments.want[0])
			got, ok = impl.VarianceOf(moments.law)
			expectRat(t, fmt.Sprint("VarianceOf ", moments.law), got, ok, moments.want[1])
		}
	}
	// The number of ones of n bits is that of m bits plus that of the others.
	for n := int64(2); n <= 50; n++ {
		for m := int64(1); m < n; m++ {
			first, _ := impl.OnesLaw(m)
			second, _ := impl.OnesLaw(n - m)
			got, ok := impl.JoinLaws(first, second)
			want, _ := impl.OnesLaw(n)
			expectLaw(t, fmt.Sprint("OnesLaw ", m, " and ", n-m), got, ok, want)
		}
	}
}

func TestFairLawLimits(t *testing.T) {
	half := evenLaw([]int64{0, 1})
	for _, f := range testedLaws() {
		for _, n := range []int64{-1, 0, 51, 52, 64, 400, -50, math.MinInt64, math.MaxInt64} {
			got, ok := f.law(n)
			expectNoLaw(t, fmt.Sprint(f.name, " of ", n), got, ok)
			got, ok = impl.PatternLaw(n, "1")
			expectNoLaw(t, fmt.Sprint("PatternLaw ", n), got, ok)
		}
	}
	got, ok := impl.OnesLaw(1)
	expectLaw(t, "OnesLaw 1", got, ok, half)
	got, ok = impl.RunsLaw(1)
	expectLaw(t, "RunsLaw 1", got, ok, evenLaw([]int64{1}))
	got, ok = impl.LongestLaw(1)
	expectLaw(t, "LongestLaw 1", got, ok, evenLaw([]int64{1}))
	got, ok = impl.PatternLaw(1, "0")
	expectLaw(t, "PatternLaw 1 0", got, ok, half)
	for _, pattern := range []string{"", "2", "a", "é", "\xff", "01 ", "0x1", "0000000", "0101010", strings.Repeat("1", 50), strings.Repeat("1", 401)} {
		for _, n := range []int64{1, 7, 50} {
			got, ok := impl.PatternLaw(n, pattern)
			expectNoLaw(t, fmt.Sprintf("PatternLaw %d %q", n, pattern), got, ok)
		}
		count, ok := impl.CountPattern("0101010", pattern)
		expectFail(t, fmt.Sprintf("CountPattern %q", pattern), count, ok)
	}
	// A pattern that is longer than the bits has no place in them.
	for _, pattern := range allPatterns() {
		for n := 1; n < len(pattern); n++ {
			got, ok := impl.PatternLaw(int64(n), pattern)
			expectLaw(t, fmt.Sprint("PatternLaw ", n, " ", pattern), got, ok, evenLaw([]int64{0}))
		}
	}
}

// Places that overlap make long runs of places likely.
func TestPlacesThatOverlap(t *testing.T) {
	for _, p := range []struct {
		n    int64
		text string
		want impl.Law
	}{
		{3, "11", lawOfWeights([]int64{0, 1, 2}, []int64{5, 2, 1})},
		{3, "10", lawOfWeights([]int64{0, 1}, []int64{4, 4})},
		{5, "010", lawOfWeights([]int64{0, 1, 2}, []int64{21, 10, 1})},
		{6, "111111", lawOfWeights([]int64{0, 1}, []int64{63, 1})},
		{7, "111111", lawOfWeights([]int64{0, 1, 2}, []int64{125, 2, 1})},
		{8, "010101", lawOfWeights([]int64{0, 1, 2}, []int64{245, 10, 1})},
	} {
		got, ok := impl.PatternLaw(p.n, p.text)
		expectLaw(t, fmt.Sprint("PatternLaw ", p.n, " ", p.text), got, ok, p.want)
	}
	l, _ := impl.PatternLaw(50, "111111")
	chance, ok := impl.ChanceOf(l, 45)
	expect(t, "45 places", chance, ok, part(1, 1<<50))
	chance, ok = impl.ChanceOf(l, 44)
	expect(t, "44 places", chance, ok, part(1, 1<<49))
	chance, ok = impl.ChanceOf(l, 46)
	expect(t, "46 places", chance, ok, part(0, 1))
}

// slowDifferent counts the draws in which just so many kinds come up, by
// leaving out the kinds that do not.
func slowDifferent(kinds, draws int64) impl.Law {
	all := new(big.Int).Exp(big.NewInt(kinds), big.NewInt(draws), nil)
	l := impl.Law{}
	for different := int64(1); different <= min(kinds, draws); different++ {
		count := new(big.Int)
		for left := range different {
			ways := new(big.Int).Exp(big.NewInt(different-left), big.NewInt(draws), nil)
			ways.Mul(ways, new(big.Int).Binomial(different, left))
			if left%2 == 1 {
				ways.Neg(ways)
			}
			count.Add(count, ways)
		}
		count.Mul(count, new(big.Int).Binomial(kinds, different))
		f, _ := exact(new(big.Rat).SetFrac(count, all))
		l.Values, l.Chances = append(l.Values, different), append(l.Chances, f)
	}
	return l
}

func TestDifferentLaws(t *testing.T) {
	for kinds := int64(1); kinds <= 20; kinds++ {
		for draws := int64(1); draws <= 12; draws++ {
			got, ok := impl.DifferentLaw(kinds, draws)
			expectLaw(t, fmt.Sprint("DifferentLaw ", kinds, " ", draws), got, ok, slowDifferent(kinds, draws))
		}
	}
	// All lists of draws are counted here.
	for kinds := int64(1); kinds <= 5; kinds++ {
		lists := []map[int64]bool{{}}
		for draws := int64(1); draws <= 5; draws++ {
			var longer []map[int64]bool
			cases := map[int64]int64{}
			for _, list := range lists {
				for kind := range kinds {
					drawn := map[int64]bool{kind: true}
					for other := range list {
						drawn[other] = true
					}
					longer = append(longer, drawn)
					cases[int64(len(drawn))]++
				}
			}
			lists = longer
			got, ok := impl.DifferentLaw(kinds, draws)
			expectLaw(t, fmt.Sprint("DifferentLaw ", kinds, " ", draws), got, ok, lawOfCases(cases))
		}
	}
}

// With so few kinds and draws, kinds to the power of draws never comes to
// MaxPart: what would do so is beyond another limit.
func TestDifferentLimits(t *testing.T) {
	got, ok := impl.DifferentLaw(1, 12)
	expectLaw(t, "one kind", got, ok, evenLaw([]int64{1}))
	got, ok = impl.DifferentLaw(20, 1)
	expectLaw(t, "one draw", got, ok, evenLaw([]int64{1}))
	got, ok = impl.DifferentLaw(20, 12)
	if !ok || got.Values[0] != 1 || got.Chances[0] != part(1, 204800000000000) || got.Values[len(got.Values)-1] != 12 {
		t.Errorf("DifferentLaw 20 12: got %v and %v", got, ok)
	}
	for _, wrong := range [][2]int64{
		{0, 0}, {0, 1}, {1, 0}, {-1, 1}, {1, -1}, {-1, -1}, {21, 1}, {1, 13}, {21, 12}, {20, 13}, {21, 13},
		{10, 18}, {1000000000, 2}, {maxPart, 1}, {10, 19}, {1000000001, 2}, {maxPart + 1, 1}, {2, 60}, {2, 64}, {1, 64}, {64, 1},
		{math.MaxInt64, 1}, {1, math.MaxInt64}, {math.MinInt64, 1}, {1, math.MinInt64}, {math.MaxInt64, math.MaxInt64}, {math.MinInt64, math.MinInt64},
	} {
		got, ok := impl.DifferentLaw(wrong[0], wrong[1])
		expectNoLaw(t, fmt.Sprint("DifferentLaw ", wrong), got, ok)
	}
}

func testedTexts() []string {
	d := draws(83)
	var list []string
	for n := range 11 {
		list = append(list, textsOf(n)...)
	}
	for _, n := range []int{49, 50, 51, 64, 399, 400} {
		for range 20 {
			list = append(list, d.bits(n), strings.Repeat(d.bits(1+int(d.below(8))), n)[:n])
		}
		for _, text := range []string{"0", "1", "01", "011", "000111"} {
			list = append(list, strings.Repeat(text, n)[:n])
		}
	}
	return list
}

func TestLongestRunsAndPlaces(t *testing.T) {
	patterns := allPatterns()
	for _, text := range testedTexts() {
		longest, ok := impl.LongestRun(text)
		expect(t, "LongestRun "+text, longest, ok, slowLongest(text))
		for _, pattern := range patterns {
			places, ok := impl.CountPattern(text, pattern)
			expect(t, "CountPattern "+text+" "+pattern, places, ok, slowPlaces(text, pattern))
		}
	}
	longest, ok := impl.LongestRun("")
	expect(t, "LongestRun of no bits", longest, ok, 0)
	places, ok := impl.CountPattern("", "0")
	expect(t, "CountPattern of no bits", places, ok, 0)
	places, ok = impl.CountPattern(strings.Repeat("1", 400), "111111")
	expect(t, "CountPattern of many bits", places, ok, 395)
	for _, wrong := range []string{"2", " ", "01a", "0 1", "é", "\xff", "01\n", "０", strings.Repeat("0", 401)} {
		longest, ok := impl.LongestRun(wrong)
		expectFail(t, fmt.Sprintf("LongestRun %q", wrong), longest, ok)
		places, ok := impl.CountPattern(wrong, "0")
		expectFail(t, fmt.Sprintf("CountPattern %q", wrong), places, ok)
	}
}

// levelByCounting is the part of all strings whose number comes up at most as
// often as that of a text.
func levelByCounting(cases map[int64]int64, number int64) impl.Fraction {
	all, level := int64(0), int64(0)
	for _, count := range cases {
		all += count
		if count <= cases[number] {
			level += count
		}
	}
	f, _ := exact(big.NewRat(level, all))
	return f
}

func TestTestLevels(t *testing.T) {
	for n := 1; n <= 9; n++ {
		texts, wanted := textsOf(n), map[string][]impl.Fraction{}
		for _, f := range testedLaws() {
			cases := map[int64]int64{}
			for _, text := range texts {
				cases[f.number(text)]++
			}
			for _, text := range texts {
				wanted[text] = append(wanted[text], levelByCounting(cases, f.number(text)))
			}
		}
		for _, text := range texts {
			got, ok := impl.TestLevels(text)
			if !ok || !slices.Equal(got, wanted[text]) {
				t.Errorf("TestLevels %s: got %v and %v, want %v", text, got, ok, wanted[text])
			}
		}
	}
	for _, text := range testedTexts() {
		got, ok := impl.TestLevels(text)
		if len(text) == 0 || len(text) > 50 {
			if ok || len(got) != 0 {
				t.Errorf("TestLevels %s: got %v and %v, want it to fail", text, got, ok)
			}
			continue
		}
		var want []impl.Fraction
		for _, f := range testedLaws() {
			l, _ := f.law(int64(len(text)))
			level, _ := impl.LevelOf(l, f.number(text))
			want = append(want, level)
		}
		if !ok || !slices.Equal(got, want) {
			t.Errorf("TestLevels %s: got %v and %v, want %v", text, got, ok, want)
		}
	}
	// Only equal bits have a number of runs, and a longest run, that are as rare.
	alternating, ok := impl.TestLevels(strings.Repeat("01", 25))
	if want := []impl.Fraction{part(1, 1), part(1, 1<<48), part(1, 1<<48)}; !ok || !slices.Equal(alternating, want) {
		t.Errorf("TestLevels of 0101..: got %v and %v, want %v", alternating, ok, want)
	}
	equal, ok := impl.TestLevels(strings.Repeat("1", 50))
	if want := []impl.Fraction{part(1, 1<<49), part(1, 1<<48), part(1, 1<<48)}; !ok || !slices.Equal(equal, want) {
		t.Errorf("TestLevels of 1111..: got %v and %v, want %v", equal, ok, want)
	}
	for _, wrong := range []string{"", "2", "0 1", "é", "\xff", strings.Repeat("1", 51), strings.Repeat("1", 400), strings.Repeat("1", 401)} {
		got, ok := impl.TestLevels(wrong)
		if ok || len(got) != 0 {
			t.Errorf("TestLevels %q: got %v and %v, want it to fail", wrong, got, ok)
		}
	}
}
