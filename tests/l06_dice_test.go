package tests

import (
	"fmt"
	"math"
	"math/big"
	"strings"
	"testing"

	"loop.example/g01121/impl"
)

func rejection(n int64) roll {
	return func(text string) (int64, int64, bool) { return impl.RollReject(n, text) }
}

func dice(n int64) roll {
	return func(text string) (int64, int64, bool) { return impl.RollDice(n, text) }
}

// widthBelow returns the least k for which 2 to the power of k is at least n.
func widthBelow(n int64) int64 {
	k := int64(0)
	for int64(1)<<k < n {
		k++
	}
	return k
}

func checkEvenNumbers(t *testing.T, what string, all outcome, n int64, length int, undecided int64) {
	t.Helper()
	if all.undecided != undecided {
		t.Errorf("%s: %d texts of %d bits draw nothing, not %d", what, all.undecided, length, undecided)
	}
	for number := range n {
		if all.values[number] != (int64(1)<<length-undecided)/n {
			t.Errorf("%s: %d texts of %d bits draw %d", what, all.values[number], length, number)
		}
	}
	if len(all.values) > int(n) {
		t.Errorf("%s: draws %d numbers", what, len(all.values))
	}
}

// Promise 7: dice draw each number equally often.
func TestDiceAreEven(t *testing.T) {
	for n := int64(1); n <= 40; n++ {
		width := widthBelow(n)
		for length := range 13 {
			open, left := int64(1), int64(length)
			for ; width > 0 && left >= width; left -= width {
				open *= int64(1)<<width - n
			}
			if width == 0 {
				open = 0
			}
			what := fmt.Sprint("RollReject ", n)
			checkEvenNumbers(t, what, outcomeOf(t, what, rejection(n), length), n, length, open<<left)
			what = fmt.Sprint("RollDice ", n)
			checkEvenNumbers(t, what, outcomeOf(t, what, dice(n), length), n, length, int64(1)<<length%n)
		}
	}
}

// slowReject takes the first piece of a text that is small enough.
func slowReject(n int64, text string) (number, used int64, ok bool) {
	width := widthBelow(n)
	for ; used+width <= int64(len(text)); used += width {
		piece := new(big.Int)
		if width > 0 {
			piece.SetString(text[used:used+width], 2)
		}
		if piece.Int64() < n {
			return piece.Int64(), used + width, true
		}
	}
	return 0, 0, false
}

// slowDice looks at the number x of the first i bits as a whole. Less has been
// taken away from it than from 2 to the power of i by as much as both differ,
// so that the texts with the greatest numbers, as many as the remainder of this
// power, are those that draw nothing.
func slowDice(n int64, text string) (number, used int64, ok bool) {
	x, power := new(big.Int), big.NewInt(1)
	for i := 0; ; i++ {
		remainder := new(big.Int).Mod(power, big.NewInt(n))
		from := new(big.Int).Sub(power, x)
		if from.Cmp(remainder) > 0 {
			return n + remainder.Int64() - from.Int64(), int64(i), true
		}
		if i == len(text) {
			return 0, 0, false
		}
		x.Lsh(x, 1).Add(x, big.NewInt(int64(text[i]-'0')))
		power.Lsh(power, 1)
	}
}

func someDiceNumbers(d *draws) []int64 {
	list := []int64{1, 2, 3, 6, 31, 32, 33, 999983, 999999, 1000000}
	for k := 1; k < 20; k++ {
		list = append(list, 1<<k-1, 1<<k, 1<<k+1)
	}
	for range 40 {
		list = append(list, 1+d.below(1000000), 1+d.below(1000))
	}
	return list
}

// diceTexts are texts that draw late, or not at all, for many numbers.
func diceTexts(d *draws) []string {
	ones := strings.Repeat("1", 400)
	list := []string{"", "0", "1", ones, ones[:399], ones[:399] + "0", ones[:396] + "0000", ones[:380] + strings.Repeat("0", 20), ones[:379] + strings.Repeat("0", 21), strings.Repeat("0", 400), strings.Repeat("10", 200)}
	for range 20 {
		list = append(list, d.bits(400), d.bits(int(d.below(30))), ones[:d.below(60)]+d.bits(40))
	}
	return list
}

func TestDice(t *testing.T) {
	d := draws(611)
	succeeded, failed := 0, 0
	for _, n := range someDiceNumbers(&d) {
		for _, text := range diceTexts(&d) {
			for _, die := range []struct {
				name string
				draw roll
				slow func(n int64, text string) (int64, int64, bool)
			}{{"RollReject", rejection(n), slowReject}, {"RollDice", dice(n), slowDice}} {
				what := fmt.Sprint(die.name, " ", n)
				if number, used, ok := die.slow(n, text); ok {
					checkRoll(t, what, die.draw, text, number, used)
					succeeded++
				} else {
					expectNoRoll(t, what, die.draw, text)
					failed++
				}
			}
		}
	}
	if succeeded < 100 || failed < 100 {
		t.Errorf("only %d rolls succeed, and %d fail", succeeded, failed)
	}
}

func TestDiceAtTheLimits(t *testing.T) {
	ones := strings.Repeat("1", 400)
	for _, text := range []string{"", "0", "1", ones} {
		checkRoll(t, "RollReject 1", rejection(1), text, 0, 0)
		checkRoll(t, "RollDice 1", dice(1), text, 0, 0)
	}
	million := "11110100001000111111" // 999999
	checkRoll(t, "RollReject", rejection(1000000), million, 999999, 20)
	checkRoll(t, "RollDice", dice(1000000), million, 999999, 20)
	expectNoRoll(t, "RollReject", rejection(1000000), "11110100001001000000")
	checkRoll(t, "RollReject", rejection(1000000), "11110100001001000000"+million, 999999, 40)
	// The first of the 48576 numbers that are too great goes on as the 0 of as
	// many: 5 bits more make 1554432 of them.
	checkRoll(t, "RollDice", dice(1000000), "1111010000100100000000001", 1, 25)
	checkRoll(t, "RollReject", rejection(524288), ones, 524287, 19)
	checkRoll(t, "RollDice", dice(524288), ones, 524287, 19)
	checkRoll(t, "RollReject", rejection(6), ones[:396]+"101", 5, 399)
	expectNoRoll(t, "RollReject", rejection(6), ones[:396]+"1101")
	checkRoll(t, "RollReject", rejection(15), ones[:396]+"1110", 14, 400)
	checkRoll(t, "RollDice", dice(3), ones[:399]+"0", 2, 400)
	expectNoRoll(t, "RollDice", dice(3), ones)
}

func TestDiceFail(t *testing.T) {
	for _, n := range []int64{1, 2, 6, 32, 1000000} {
		expectRollsFail(t, fmt.Sprint("RollReject ", n), rejection(n), wrongTexts())
		expectRollsFail(t, fmt.Sprint("RollDice ", n), dice(n), wrongTexts())
	}
	texts := []string{"", "0", "1", strings.Repeat("0", 400), strings.Repeat("01", 200), "2"}
	for _, n := range []int64{0, -1, -2, 1000001, 1048576, 1 << 32, math.MaxInt64, math.MinInt64, math.MinInt64 + 1} {
		expectRollsFail(t, fmt.Sprint("RollReject ", n), rejection(n), texts)
		expectRollsFail(t, fmt.Sprint("RollDice ", n), dice(n), texts)
		cost, ok := impl.RejectCost(n)
		expectFail(t, fmt.Sprint("RejectCost ", n), cost, ok)
		cost, ok = impl.DiceCost(n)
		expectFail(t, fmt.Sprint("DiceCost ", n), cost, ok)
	}
	for _, n := range []int64{33, 34, 64, 100, 1000000} {
		cost, ok := impl.DiceCost(n)
		expectFail(t, fmt.Sprint("DiceCost ", n), cost, ok)
	}
}

func TestRejectCosts(t *testing.T) {
	d := draws(612)
	list := someDiceNumbers(&d)
	for n := int64(1); n <= 1100; n++ {
		list = append(list, n)
	}
	for _, n := range list {
		k := widthBelow(n)
		cost, ok := impl.RejectCost(n)
		expectRat(t, fmt.Sprint("RejectCost ", n), cost, ok, big.NewRat(k<<k, n))
	}
	for n, want := range map[int64]impl.Fraction{1: part(0, 1), 2: part(1, 1), 3: part(8, 3), 6: part(4, 1), 524288: part(19, 1), 1000000: part(65536, 3125)} {
		cost, ok := impl.RejectCost(n)
		expect(t, fmt.Sprint("RejectCost ", n), cost, ok, want)
	}
}

// expectNear requires a cost to be a sum without end: its first parts, all of
// which are not negative, and the others, which add up to less than 2 to the
// power of -200. Two valid fractions are never as near to one another.
func expectNear(t *testing.T, what string, cost impl.Fraction, ok bool, sum *big.Rat) {
	t.Helper()
	if !ok || !isFraction(cost) {
		t.Fatalf("%s: got %v and %v", what, cost, ok)
	}
	others := new(big.Rat).Sub(rat(cost), sum)
	small := new(big.Rat).SetFrac(big.NewInt(1), new(big.Int).Lsh(big.NewInt(1), 200))
	if others.Sign() < 0 || others.Cmp(small) >= 0 {
		t.Errorf("%s: got %v", what, cost)
	}
}

// leastCost is the sum for the best of all ways to draw numbers below n: it
// has a leaf for each binary digit 1 of each chance.
func leastCost(n int64) *big.Rat {
	sum, rest, power := new(big.Rat), int64(1), big.NewInt(1)
	for d := int64(0); d < 300; d++ {
		if rest >= n {
			rest -= n
			sum.Add(sum, new(big.Rat).SetFrac(big.NewInt(n*d), power))
		}
		rest *= 2
		power = new(big.Int).Lsh(power, 1)
	}
	return sum
}

func TestDiceCosts(t *testing.T) {
	for n := int64(1); n <= 32; n++ {
		what := fmt.Sprint("DiceCost ", n)
		cost, ok := impl.DiceCost(n)
		sum, power := new(big.Rat), big.NewInt(1)
		for range 300 {
			remainder := new(big.Int).Mod(power, big.NewInt(n))
			sum.Add(sum, new(big.Rat).SetFrac(remainder, power))
			power = new(big.Int).Lsh(power, 1)
		}
		expectNear(t, what, cost, ok, sum)
		expectNear(t, what, cost, ok, leastCost(n))
		other, _ := impl.RejectCost(n)
		if rat(cost).Cmp(rat(other)) > 0 {
			t.Errorf("%s: got %v, but %v by rejection", what, cost, other)
		}
	}
	for n, want := range map[int64]impl.Fraction{1: part(0, 1), 2: part(1, 1), 3: part(8, 3), 4: part(2, 1), 5: part(18, 5), 6: part(11, 3), 7: part(24, 7), 10: part(23, 5), 16: part(4, 1), 32: part(5, 1)} {
		cost, ok := impl.DiceCost(n)
		expect(t, fmt.Sprint("DiceCost ", n), cost, ok, want)
	}
}

// What the cost tells is what rolls use, as far as they go.
func TestDiceUseTheirCosts(t *testing.T) {
	const length = 12
	for n := int64(1); n <= 40; n++ {
		used, width, rejected := int64(0), widthBelow(n), int64(1)
		for i := range length {
			used += int64(1) << i % n << (length - i)
		}
		if all := outcomeOf(t, "RollDice", dice(n), length); all.used != used {
			t.Errorf("RollDice %d: uses %d bits, not %d", n, all.used, used)
		}
		used = 0
		for i := range int64(length) {
			if width > 0 && i > 0 && i%width == 0 {
				rejected *= int64(1)<<width - n
			}
			if width > 0 {
				used += rejected << (length - i/width*width)
			}
		}
		if all := outcomeOf(t, "RollReject", rejection(n), length); all.used != used {
			t.Errorf("RollReject %d: uses %d bits, not %d", n, all.used, used)
		}
	}
}

// A die whose faces are a power of 2 is a tree with even weights.
func TestDiceAreTrees(t *testing.T) {
	for faces := 1; faces <= 16; faces *= 2 {
		weights, n := evenWeights(faces, 1), int64(faces)
		tree, _ := impl.TreeCost(weights)
		cost, ok := impl.DiceCost(n)
		expect(t, fmt.Sprint("DiceCost ", n), cost, ok, tree)
		for _, text := range textsOf(4) {
			face, used, _ := impl.RollTree(weights, text)
			checkRoll(t, fmt.Sprint("RollDice ", n), dice(n), text, face, used)
			checkRoll(t, fmt.Sprint("RollReject ", n), rejection(n), text, face, used)
		}
	}
}
