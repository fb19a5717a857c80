package tests

import (
	"fmt"
	"math"
	"math/big"
	"strings"
	"testing"

	"loop.example/g01121/impl"
)

func coin(p impl.Fraction) roll {
	return func(text string) (int64, int64, bool) { return impl.CoinFrom(p, text) }
}

// digitsOf returns the first binary digits of p behind the point. Doubling
// finds only digits 1 for the whole number 1.
func digitsOf(p impl.Fraction, count int) string {
	if p.Num == p.Den {
		return strings.Repeat("1", count)
	}
	n := new(big.Int).Lsh(big.NewInt(p.Num), uint(count))
	n.Quo(n, big.NewInt(p.Den))
	if count == 0 {
		return ""
	}
	return fmt.Sprintf("%0*b", count, n)
}

// slowCoin compares a text with all digits as strings are compared.
func slowCoin(p impl.Fraction, text string) (value, used int64, ok bool) {
	digits := digitsOf(p, len(text))
	if text == digits {
		return 0, 0, false
	}
	for text[used] == digits[used] {
		used++
	}
	if text < digits {
		value = 1
	}
	return value, used + 1, true
}

func smallChances(most int64) []impl.Fraction {
	var list []impl.Fraction
	for d := int64(1); d <= most; d++ {
		for n := range d + 1 {
			if f := part(n, d); isFraction(f) {
				list = append(list, f)
			}
		}
	}
	return list
}

func bigChances() []impl.Fraction {
	list := []impl.Fraction{part(1, maxPart), part(maxPart-1, maxPart), part(1, maxPart-1), part(maxPart-2, maxPart-1), part(499999999999999999, maxPart), part(1, 1<<59), part(1<<59-1, 1<<59), part(1<<58+1, 1<<59), part(387420489, maxPart), part(1, 1000000000), part(999999999, 1000000000), part(1, 3), part(5, 7), part(1, 1), part(0, 1), part(1, 2)}
	d := draws(621)
	for range 60 {
		den := 2 + d.below(maxPart>>d.below(50)-1)
		if f := part(d.below(den), den); isFraction(f) {
			list = append(list, f)
		}
	}
	return list
}

// Promise 7: of all texts of a length, as many draw 1 as p tells, but for the
// one that decides nothing.
func TestCoinChances(t *testing.T) {
	for _, p := range smallChances(16) {
		for _, length := range []int{0, 1, 2, 7, 10} {
			what := fmt.Sprint("CoinFrom ", p)
			all, texts := outcomeOf(t, what, coin(p), length), int64(1)<<length
			ones := p.Num * texts / p.Den
			if p.Num == p.Den {
				ones = texts - 1
			}
			if all.undecided != 1 || all.values[1] != ones || all.values[0] != texts-1-ones {
				t.Errorf("%s: %d bits draw %v, and %d texts nothing", what, length, all.values, all.undecided)
			}
		}
	}
}

func TestCoins(t *testing.T) {
	d := draws(622)
	for _, p := range append(smallChances(6), bigChances()...) {
		what := fmt.Sprint("CoinFrom ", p)
		digits := digitsOf(p, 400)
		texts := []string{strings.Repeat("0", 400), strings.Repeat("1", 400), strings.Repeat("01", 200), strings.Repeat("10", 200), "0", "1"}
		for range 8 {
			texts = append(texts, d.bits(400), digits[:d.below(400)]+d.bits(3), digits[:d.below(60)]+d.bits(40))
		}
		for _, text := range texts {
			if text = text[:min(len(text), 400)]; text == digits[:len(text)] {
				expectNoRoll(t, what, coin(p), text)
				continue
			}
			value, used, _ := slowCoin(p, text)
			checkRoll(t, what, coin(p), text, value, used)
		}
		for _, length := range []int{0, 1, 2, 60, 64, 399, 400} {
			expectNoRoll(t, what, coin(p), digits[:length])
		}
		last := digits[:399] + string('0'+'1'-rune(digits[399]))
		checkRoll(t, what, coin(p), last, int64(digits[399]-'0'), 400)
	}
}

// With 0 and 1, what is drawn is certain; 1/2 is 0.1000.. and not 0.0111..
func TestSureCoins(t *testing.T) {
	zeros, ones := strings.Repeat("0", 400), strings.Repeat("1", 400)
	never, always, half := coin(part(0, 1)), coin(part(1, 1)), coin(part(1, 2))
	for _, text := range []string{"", "0", zeros} {
		expectNoRoll(t, "CoinFrom 0", never, text)
	}
	for _, text := range []string{"", "1", ones} {
		expectNoRoll(t, "CoinFrom 1", always, text)
	}
	checkRoll(t, "CoinFrom 0", never, "1", 0, 1)
	checkRoll(t, "CoinFrom 0", never, zeros[:399]+"1", 0, 400)
	checkRoll(t, "CoinFrom 1", always, "0", 1, 1)
	checkRoll(t, "CoinFrom 1", always, ones[:399]+"0", 1, 400)
	checkRoll(t, "CoinFrom 1/2", half, "0", 1, 1)
	checkRoll(t, "CoinFrom 1/2", half, "0111", 1, 1)
	checkRoll(t, "CoinFrom 1/2", half, "11", 0, 2)
	expectNoRoll(t, "CoinFrom 1/2", half, "1")
	expectNoRoll(t, "CoinFrom 1/2", half, "1"+zeros[:399])
}

// notChances are no fractions from 0 to 1, or not valid.
func notChances() []impl.Fraction {
	list := []impl.Fraction{part(-1, 2), part(-1, 1), part(3, 2), part(2, 1), part(-1, maxPart), part(maxPart, maxPart-1), part(maxPart, 1), part(-maxPart, 1), part(-maxPart, maxPart-1)}
	for _, f := range fractionPool() {
		if !isFraction(f) {
			list = append(list, f)
		}
	}
	return append(list, part(0, 3), part(2, 2), part(3, 6), part(1, maxPart+1), part(maxPart, maxPart+1), part(1, -3), part(-1, -3), part(0, -1), part(math.MaxInt64-1, math.MaxInt64))
}

func TestCoinsFail(t *testing.T) {
	for _, p := range notChances() {
		what := fmt.Sprint("CoinFrom ", p)
		expectRollsFail(t, what, coin(p), []string{"", "0", "1", "01", "10", "2", strings.Repeat("0", 400), strings.Repeat("1", 400), strings.Repeat("10", 200)})
	}
	for _, p := range []impl.Fraction{part(0, 1), part(1, 1), part(1, 2), part(2, 3)} {
		expectRollsFail(t, fmt.Sprint("CoinFrom ", p), coin(p), wrongTexts())
	}
}

// slowPairs returns what is left of the pairs of a text: the first bits where
// they differ, whether they do, and the first bits where they do not.
func slowPairs(text string) (different, changes, equal string) {
	for ; len(text) >= 2; text = text[2:] {
		switch text[:2] {
		case "01", "10":
			different, changes = different+text[:1], changes+"1"
		case "00", "11":
			changes, equal = changes+"0", equal+text[:1]
		}
	}
	return different, changes, equal
}

func slowDeep(text string, depth int64) string {
	if depth == 0 {
		return ""
	}
	different, changes, equal := slowPairs(text)
	return different + slowDeep(changes, depth-1) + slowDeep(equal, depth-1)
}

func deep(depth int64) func(text string) (string, bool) {
	return func(text string) (string, bool) { return impl.FairDeep(text, depth) }
}

func flippedTexts() []string {
	d := draws(623)
	zeros, ones := strings.Repeat("0", 400), strings.Repeat("1", 400)
	list := []string{zeros, ones, zeros[:399], ones[:399], strings.Repeat("01", 200), strings.Repeat("0011", 100), strings.Repeat("0110", 100), zeros[:128] + ones[:128], zeros[:128] + ones[:127], zeros[:200] + ones[:200]}
	for length := 0; length <= 400; length += 1 + length/16 {
		text := d.bits(length)
		biased, _ := impl.ShrinkBits(d.bits(length), text)
		list = append(list, text, biased, flipped(zeros[:length], length/4, &d), flipped(ones[:length], length/3, &d))
	}
	return list
}

func checkFair(t *testing.T, text string) {
	t.Helper()
	different, _, _ := slowPairs(text)
	got, ok := impl.FairPairs(text)
	expect(t, "FairPairs "+text, got, ok, different)
	for depth := range int64(9) {
		got, ok := impl.FairDeep(text, depth)
		expect(t, fmt.Sprint("FairDeep ", text, " ", depth), got, ok, slowDeep(text, depth))
	}
}

func TestFairPairsAndDeep(t *testing.T) {
	for length := range 11 {
		for _, text := range textsOf(length) {
			checkFair(t, text)
		}
	}
	for _, text := range flippedTexts() {
		checkFair(t, text)
	}
}

// Each depth up to MaxDepth looks at bits that no lesser one does.
func TestDepths(t *testing.T) {
	for depth := int64(1); depth <= 8; depth++ {
		half := 1 << (depth - 1)
		text := strings.Repeat("0", half) + strings.Repeat("1", half)
		for other := range int64(9) {
			want := ""
			if other >= depth {
				want = "0"
			}
			got, ok := impl.FairDeep(text, other)
			expect(t, fmt.Sprint("FairDeep ", text, " ", other), got, ok, want)
		}
	}
	for _, text := range []string{"", "0", "01", strings.Repeat("0", 400)} {
		for _, depth := range []int64{-1, 9, 10, 64, math.MinInt64, math.MaxInt64} {
			got, ok := impl.FairDeep(text, depth)
			expectFail(t, fmt.Sprint("FairDeep ", text, " ", depth), got, ok)
		}
	}
}

// checkEvenTexts requires that all texts of a length with as many bits 1 give
// every string of the same length equally often.
func checkEvenTexts(t *testing.T, what string, length int, fair func(text string) (string, bool)) {
	t.Helper()
	given := make([]map[string]int, length+1)
	for i := range given {
		given[i] = map[string]int{}
	}
	for _, text := range textsOf(length) {
		got, ok := fair(text)
		if !ok {
			t.Fatalf("%s %s fails", what, text)
		}
		given[slowOnes(text)][got]++
	}
	for weight, counts := range given {
		longest := 0
		for text := range counts {
			longest = max(longest, len(text))
		}
		for size := range longest + 1 {
			for _, text := range textsOf(size) {
				if want := counts[strings.Repeat("0", size)]; counts[text] != want {
					t.Errorf("%s: of texts with %d of %d bits 1, %d give %s, but %d give zeros", what, weight, length, counts[text], text, want)
				}
			}
		}
	}
}

// Promise 7: unfair coins give all strings of a length equally often.
func TestUnfairCoinsGiveEvenBits(t *testing.T) {
	for length := range 15 {
		checkEvenTexts(t, "FairPairs", length, impl.FairPairs)
		checkEvenTexts(t, "FairBlock", length, impl.FairBlock)
	}
	checkEvenTexts(t, "FairBlock", 15, impl.FairBlock)
	checkEvenTexts(t, "FairBlock", 16, impl.FairBlock)
	for length := range 13 {
		for depth := range int64(9) {
			checkEvenTexts(t, fmt.Sprint("FairDeep ", depth), length, deep(depth))
		}
	}
}

// sectionsOf returns, for as many indices as count, the digits within sections.
func sectionsOf(count int) []string {
	var digits []string
	for exponent := 30; exponent >= 0; exponent-- {
		if count>>exponent&1 == 1 {
			digits = append(digits, textsOf(exponent)...)
		}
	}
	return digits
}

func TestFairBlocks(t *testing.T) {
	for length := range 17 {
		byWeight := make([][]string, length+1)
		for _, text := range textsOf(length) {
			byWeight[slowOnes(text)] = append(byWeight[slowOnes(text)], text)
		}
		for _, texts := range byWeight {
			for i, digits := range sectionsOf(len(texts)) {
				got, ok := impl.FairBlock(texts[i])
				expect(t, "FairBlock "+texts[i], got, ok, digits)
			}
		}
	}
	got, ok := impl.FairBlock("")
	expect(t, "FairBlock of no bits", got, ok, "")
	got, ok = impl.FairBlock(strings.Repeat("1", 16))
	expect(t, "FairBlock of ones", got, ok, "")
	got, ok = impl.FairBlock("0000000011111111")
	expect(t, "the first FairBlock", got, ok, strings.Repeat("0", 13))
	got, ok = impl.FairBlock("1111111100000000")
	expect(t, "the last FairBlock", got, ok, "1")
}

func TestFairFails(t *testing.T) {
	for _, text := range wrongTexts() {
		got, ok := impl.FairPairs(text)
		expectFail(t, "FairPairs "+text, got, ok)
		got, ok = impl.FairBlock(text)
		expectFail(t, "FairBlock "+text, got, ok)
		for depth := range int64(9) {
			got, ok = impl.FairDeep(text, depth)
			expectFail(t, fmt.Sprint("FairDeep ", text, " ", depth), got, ok)
		}
	}
	for _, length := range []int{17, 18, 32, 60, 64, 400} {
		for _, bit := range []string{"0", "1"} {
			got, ok := impl.FairBlock(strings.Repeat(bit, length))
			expectFail(t, fmt.Sprint("FairBlock of ", length, " bits"), got, ok)
		}
	}
}

func TestPairCosts(t *testing.T) {
	one, failed := big.NewRat(1, 1), 0
	list := append(smallChances(40), bigChances()...)
	for _, den := range []int64{999999999, 1000000000, 1000000001, 1<<30 - 1, 1 << 30, 3037000499, 3037000500, 1 << 32, 1<<32 + 1, maxPart} {
		for _, num := range []int64{1, 2, 3, den / 2, den/2 + 1, den/3 + 1, den - 2, den - 1} {
			if f := part(num, den); isFraction(f) {
				list = append(list, f)
			}
		}
	}
	for _, p := range list {
		cost, ok := impl.PairCost(p)
		if p.Num == 0 || p.Num == p.Den {
			expectFail(t, fmt.Sprint("PairCost ", p), cost, ok)
			continue
		}
		product := new(big.Rat).Mul(rat(p), new(big.Rat).Sub(one, rat(p)))
		expectRat(t, fmt.Sprint("PairCost ", p), cost, ok, product.Inv(product))
		if !ok {
			failed++
		}
	}
	if failed < 20 {
		t.Errorf("only %d costs are not valid", failed)
	}
	for _, p := range notChances() {
		cost, ok := impl.PairCost(p)
		expectFail(t, fmt.Sprint("PairCost ", p), cost, ok)
	}
}

func TestPairCostsAtTheLimits(t *testing.T) {
	for _, p := range []struct {
		chance, cost impl.Fraction // zero where it is not valid
	}{
		{part(1, 2), part(4, 1)}, {part(1, 3), part(9, 2)}, {part(2, 3), part(9, 2)}, {part(1, 1000000000), part(maxPart, 999999999)},
		{part(999999999, 1000000000), part(maxPart, 999999999)}, {part(1, 1000000001), impl.Fraction{}}, {part(1000000000, 1000000001), impl.Fraction{}},
		{part(1, maxPart), impl.Fraction{}}, {part(maxPart-1, maxPart), impl.Fraction{}}, {part(0, 1), impl.Fraction{}}, {part(1, 1), impl.Fraction{}},
	} {
		cost, ok := impl.PairCost(p.chance)
		if cost != p.cost || ok != (p.cost != impl.Fraction{}) {
			t.Errorf("PairCost %v: got %v and %v, want %v", p.chance, cost, ok, p.cost)
		}
	}
}

func TestCoinExamples(t *testing.T) {
	got, ok := impl.FairPairs("0110")
	expect(t, "FairPairs", got, ok, "01")
	got, ok = impl.FairPairs("01101")
	expect(t, "FairPairs", got, ok, "01")
	got, ok = impl.FairDeep("00110110", 2)
	expect(t, "FairDeep", got, ok, "010")
	for text, want := range map[string]string{"0011": "00", "0101": "01", "0110": "10", "1001": "11", "1010": "0", "1100": "1", "111": ""} {
		got, ok := impl.FairBlock(text)
		expect(t, "FairBlock "+text, got, ok, want)
	}
	checkRoll(t, "CoinFrom 2/3", coin(part(2, 3)), "1001", 1, 3)
	expectNoRoll(t, "CoinFrom 2/3", coin(part(2, 3)), "1010")
}
