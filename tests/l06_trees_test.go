package tests

import (
	"fmt"
	"math"
	"math/big"
	"slices"
	"strconv"
	"strings"
	"testing"

	"loop.example/g01121/impl"
)

func TestDrawingLimits(t *testing.T) {
	got := []int64{impl.MaxFaces, impl.MaxLevels, impl.MaxTotal, impl.MaxDice, impl.MaxDepth, impl.MaxBlock}
	if want := []int64{16, 12, 1000000, 32, 8, 16}; !slices.Equal(got, want) {
		t.Errorf("got %v, want %v", got, want)
	}
}

// roll draws a value from bits, and tells how many of them it has used.
type roll func(text string) (value, used int64, ok bool)

func expectRoll(t *testing.T, what string, draw roll, text string, wantValue, wantUsed int64) {
	t.Helper()
	value, used, ok := draw(text)
	if !ok || value != wantValue || used != wantUsed {
		t.Errorf("%s %s: got %d, %d and %v, want %d and %d", what, text, value, used, ok, wantValue, wantUsed)
	}
}

func expectNoRoll(t *testing.T, what string, draw roll, text string) {
	t.Helper()
	value, used, ok := draw(text)
	if ok || value != 0 || used != 0 {
		t.Errorf("%s %s: got %d, %d and %v, want it to fail", what, text, value, used, ok)
	}
}

// checkRoll requires a value, drawn with just as many bits as are used: what
// stands behind them is of no account, and with one bit less, nothing is drawn.
func checkRoll(t *testing.T, what string, draw roll, text string, value, used int64) {
	t.Helper()
	expectRoll(t, what, draw, text, value, used)
	expectRoll(t, what, draw, text[:used], value, used)
	if used > 0 {
		expectNoRoll(t, what, draw, text[:used-1])
	}
}

// outcome is what all texts of a length draw.
type outcome struct {
	values    map[int64]int64 // for each value, how many texts draw it
	undecided int64
	used      int64 // the sum for all texts, all bits for those that draw nothing
}

func outcomeOf(t *testing.T, what string, draw roll, length int) outcome {
	t.Helper()
	all := outcome{values: map[int64]int64{}}
	for _, text := range textsOf(length) {
		value, used, ok := draw(text)
		if !ok {
			all.undecided++
			all.used += int64(length)
			expectNoRoll(t, what, draw, text)
			continue
		}
		all.values[value]++
		all.used += used
		checkRoll(t, what, draw, text, value, used)
	}
	return all
}

// wrongTexts are no bits.
func wrongTexts() []string {
	return []string{"2", " ", "0 ", "01x", "0101010101010101010101010101010101010101x", "00000000\n", "/0", "é", "\xff", "０", "0\x00", strings.Repeat("0", 401), strings.Repeat("01", 300)}
}

func expectRollsFail(t *testing.T, what string, draw roll, texts []string) {
	t.Helper()
	for _, text := range texts {
		expectNoRoll(t, what, draw, text)
	}
}

// listsWithSum returns all lists of as many numbers, which are not negative,
// with a sum.
func listsWithSum(count int, sum int64) [][]int64 {
	if count == 1 {
		return [][]int64{{sum}}
	}
	var lists [][]int64
	for first := range sum + 1 {
		for _, rest := range listsWithSum(count-1, sum-first) {
			lists = append(lists, append([]int64{first}, rest...))
		}
	}
	return lists
}

// drawnWeights returns weights with a total, some of which are often 0.
func drawnWeights(count int, total int64, d *draws) []int64 {
	weights := make([]int64, count)
	for face := range weights[1:] {
		weights[face] = d.below(3) * d.below(total+1) / int64(count)
		weights[face] = min(weights[face], total)
		total -= weights[face]
	}
	weights[count-1] = total
	return weights
}

func evenWeights(count int, weight int64) []int64 {
	return slices.Repeat([]int64{weight}, count)
}

func smallDyadics() [][]int64 {
	var list [][]int64
	for _, total := range []int64{1, 2, 4, 8, 16} {
		for faces := 1; faces <= 3; faces++ {
			list = append(list, listsWithSum(faces, total)...)
		}
	}
	for _, total := range []int64{1, 2, 4, 8} {
		list = append(list, listsWithSum(4, total)...)
	}
	return list
}

func someDyadics() [][]int64 {
	d := draws(601)
	list := [][]int64{
		{4096}, {0, 4096}, {1, 4095}, {4095, 1}, {2048, 2048}, {1365, 1365, 1366}, {2048, 1024, 512, 256, 128, 64, 32, 16, 8, 4, 2, 1, 1},
		evenWeights(16, 256), evenWeights(16, 1), evenWeights(16, 2), append(evenWeights(15, 0), 1), append(evenWeights(15, 0), 4096), append(evenWeights(15, 1), 1), append(evenWeights(15, 273), 1),
		append([]int64{1}, evenWeights(15, 0)...), append([]int64{4081}, evenWeights(15, 1)...),
	}
	for _, count := range []int{2, 3, 5, 8, 15, 16} {
		for level := 5; level <= 12; level++ {
			list = append(list, drawnWeights(count, 1<<level, &d))
		}
	}
	return list
}

// notWeights returns lists that are no weights.
func notWeights() [][]int64 {
	return [][]int64{
		nil, {}, {0}, {0, 0}, evenWeights(16, 0), evenWeights(17, 0), evenWeights(17, 1), append(evenWeights(16, 1), 0), append(evenWeights(16, 0), 1), evenWeights(32, 1), evenWeights(1000, 1),
		{-1}, {-1, 1}, {-1, 2}, {2, -1}, {-4, 8}, {1, -1, 1}, {3, 6, -1}, {1000001}, {1000000, 1}, {1, 999999, 1}, {500000, 500001}, {0, 1000001},
		{math.MaxInt64}, {math.MinInt64}, {math.MaxInt64, math.MaxInt64, 3}, {math.MaxInt64, math.MaxInt64, 6}, {math.MinInt64, math.MinInt64, 1}, {math.MinInt64, math.MaxInt64, 2},
		{1 << 62, 1 << 62, 1 << 62, 1 << 62, 1}, {1 << 62, 1 << 62, 1 << 62, 1 << 62, 1024}, {1 << 32, 1 << 32},
	}
}

// otherWeights returns weights that are not dyadic.
func otherWeights() [][]int64 {
	return [][]int64{
		{3}, {0, 3}, {1, 2}, {3, 4}, {5, 1, 0}, {6}, {12}, {4097}, {4095}, {4096, 1}, {8192}, {4096, 4096}, {1, 8191}, evenWeights(16, 512), {16384}, {524288}, {262144, 262144}, {1000000}, {999999, 1},
		evenWeights(16, 3), evenWeights(15, 1), evenWeights(16, 62500), append(evenWeights(15, 0), 5),
	}
}

func totalOf(weights []int64) int64 {
	total := int64(0)
	for _, weight := range weights {
		total += weight
	}
	return total
}

// interval is a part of all texts of k bits, in order, that draws a face.
type interval struct {
	face, level, length int64
}

// intervalsOf cuts the texts of k bits in order for the leaves: each leaf takes
// all texts that begin with its own bits.
func intervalsOf(weights []int64, k int) []interval {
	var list []interval
	for level := range k + 1 {
		length := int64(1) << (k - level)
		for face, weight := range weights {
			if weight/length%2 == 1 {
				list = append(list, interval{int64(face), int64(level), length})
			}
		}
	}
	return list
}

func checkTree(t *testing.T, weights []int64) {
	t.Helper()
	what, total := fmt.Sprint(weights), totalOf(weights)
	k := len(strconv.FormatInt(total, 2)) - 1
	intervals, leaves := intervalsOf(weights, k), make([][]int64, k+1)
	draw := func(text string) (int64, int64, bool) { return impl.RollTree(weights, text) }
	texts, cost := textsOf(k), new(big.Rat)
	for _, part := range intervals {
		leaves[part.level] = append(leaves[part.level], part.face)
		cost.Add(cost, big.NewRat(part.level, 1<<part.level))
		for _, text := range texts[:part.length] {
			expectRoll(t, "RollTree "+what, draw, text, part.face, part.level)
		}
		texts = texts[part.length:]
	}
	if len(texts) != 0 || !impl.IsDyadic(weights) {
		t.Errorf("%v: %d texts draw nothing, IsDyadic is %v", weights, len(texts), impl.IsDyadic(weights))
	}
	got, ok := impl.TreeLeaves(weights)
	if !ok || len(got) != len(leaves) || !slices.EqualFunc(got, leaves, slices.Equal) {
		t.Errorf("TreeLeaves %v: got %v and %v, want %v", weights, got, ok, leaves)
	}
	mean, ok := impl.TreeCost(weights)
	expectRat(t, "TreeCost "+what, mean, ok, cost)
}

// Promise 7: trees draw each face with exactly its chance.
func checkTreeChances(t *testing.T, weights []int64) {
	t.Helper()
	what, total := fmt.Sprint("RollTree ", weights), totalOf(weights)
	length := len(strconv.FormatInt(total, 2)) - 1
	all := outcomeOf(t, what, func(text string) (int64, int64, bool) { return impl.RollTree(weights, text) }, length)
	for face, weight := range weights {
		if all.values[int64(face)] != weight {
			t.Errorf("%s: the face %d comes up %d times", what, face, all.values[int64(face)])
		}
	}
	if all.undecided != 0 {
		t.Errorf("%s: %d texts draw nothing", what, all.undecided)
	}
	cost, ok := impl.TreeCost(weights)
	expectRat(t, what, cost, ok, big.NewRat(all.used, total))
}

func TestTrees(t *testing.T) {
	for _, weights := range slices.Concat(smallDyadics(), someDyadics()) {
		checkTree(t, weights)
		checkTreeChances(t, weights)
	}
}

// leastBits returns the least number of bits with which all texts together can
// draw faces as often as their weights tell. The first bit cuts the weights in
// two lists with the same total, and each of them goes on by itself.
func leastBits(weights [3]int64, known map[[3]int64]int64) int64 {
	total := weights[0] + weights[1] + weights[2]
	if slices.Max(weights[:]) == total {
		return 0
	}
	if bits, ok := known[weights]; ok {
		return bits
	}
	least := int64(math.MaxInt64)
	for a := range weights[0] + 1 {
		for b := range weights[1] + 1 {
			c := total/2 - a - b
			if c < 0 || c > weights[2] {
				continue
			}
			first, second := [3]int64{a, b, c}, [3]int64{weights[0] - a, weights[1] - b, weights[2] - c}
			least = min(least, total+leastBits(first, known)+leastBits(second, known))
		}
	}
	known[weights] = least
	return least
}

// No other way to draw the faces uses fewer bits.
func TestTreesAreBest(t *testing.T) {
	known := map[[3]int64]int64{}
	for _, total := range []int64{1, 2, 4, 8, 16, 32} {
		for _, weights := range listsWithSum(3, total) {
			cost, ok := impl.TreeCost(weights)
			expectRat(t, fmt.Sprint("TreeCost ", weights), cost, ok, big.NewRat(leastBits([3]int64(weights), known), total))
		}
	}
}

func TestTreesAtTheLimits(t *testing.T) {
	most := append([]int64{4081}, evenWeights(15, 1)...)
	for _, weights := range [][]int64{{1}, {0, 1}, append(evenWeights(15, 0), 4096)} {
		draw := func(text string) (int64, int64, bool) { return impl.RollTree(weights, text) }
		for _, text := range []string{"", "0", "1", strings.Repeat("1", 400)} {
			expectRoll(t, fmt.Sprint("RollTree ", weights), draw, text, int64(len(weights)-1), 0)
		}
		expectRollsFail(t, fmt.Sprint("RollTree ", weights), draw, wrongTexts())
	}
	leaves, ok := impl.TreeLeaves(most)
	if !ok || len(leaves) != 13 || !slices.Equal(leaves[12], valuesFrom(0, 1, 16)) || len(leaves[0]) != 0 {
		t.Errorf("TreeLeaves %v: got %v and %v", most, leaves, ok)
	}
	draw := func(text string) (int64, int64, bool) { return impl.RollTree(most, text) }
	checkRoll(t, "RollTree", draw, strings.Repeat("1", 400), 15, 12)
	checkRoll(t, "RollTree", draw, strings.Repeat("1", 12), 15, 12)
	checkRoll(t, "RollTree", draw, "1111111100001", 0, 12)
	checkRoll(t, "RollTree", draw, "011", 0, 1)
	expectNoRoll(t, "RollTree", draw, "")
	expectRollsFail(t, "RollTree", draw, wrongTexts())
}

func TestTreesFail(t *testing.T) {
	for _, weights := range slices.Concat(notWeights(), otherWeights()) {
		what := fmt.Sprint(weights)
		if impl.IsDyadic(weights) {
			t.Errorf("%s are dyadic", what)
		}
		leaves, ok := impl.TreeLeaves(weights)
		if ok || len(leaves) != 0 {
			t.Errorf("TreeLeaves %s: got %v and %v", what, leaves, ok)
		}
		cost, ok := impl.TreeCost(weights)
		expectFail(t, "TreeCost "+what, cost, ok)
		draw := func(text string) (int64, int64, bool) { return impl.RollTree(weights, text) }
		expectRollsFail(t, "RollTree "+what, draw, []string{"", "0", "1", strings.Repeat("0", 400), strings.Repeat("1", 400), strings.Repeat("01", 200), "2"})
	}
}

// slowColumns follows the document with the shares in a list.
func slowColumns(weights []int64) (cuts, others []int64) {
	total, n := totalOf(weights), len(weights)
	shares, done := make([]int64, n), make([]bool, n)
	for face, weight := range weights {
		shares[face] = int64(n) * weight
	}
	cuts, others = make([]int64, n), make([]int64, n)
	for {
		i := 0
		for i < n && (done[i] || shares[i] >= total) {
			i++
		}
		if i == n {
			break
		}
		j := slices.IndexFunc(shares, func(share int64) bool { return share > total })
		cuts[i], others[i], done[i] = shares[i], int64(j), true
		shares[j] -= total - shares[i]
	}
	for face := range weights {
		if !done[face] {
			cuts[face], others[face] = total, int64(face)
		}
	}
	return cuts, others
}

func checkColumns(t *testing.T, weights []int64) {
	t.Helper()
	what, total, n := fmt.Sprint(weights), totalOf(weights), int64(len(weights))
	cuts, others, ok := impl.AliasTable(weights)
	wantCuts, wantOthers := slowColumns(weights)
	expectList(t, "the cuts of "+what, cuts, ok, wantCuts)
	expectList(t, "the other faces of "+what, others, ok, wantOthers)
	if len(cuts) != len(weights) || len(others) != len(weights) {
		return
	}
	// Promise 7: over all columns and levels, each face has its chance.
	levels := make([]int64, n)
	for column := range n {
		if cuts[column] < 0 || cuts[column] > total {
			t.Errorf("%s: the cuts are %v", what, cuts)
		}
		levels[column] += cuts[column]
		levels[others[column]] += total - cuts[column]
		for _, level := range []int64{0, 1, cuts[column] - 1, cuts[column], cuts[column] + 1, total - 1} {
			if level < 0 || level >= total {
				continue
			}
			want := column
			if level >= cuts[column] {
				want = others[column]
			}
			face, ok := impl.AliasFace(weights, column, level)
			expect(t, fmt.Sprint("AliasFace ", weights, column, level), face, ok, want)
		}
	}
	for face, weight := range weights {
		if levels[face] != n*weight {
			t.Errorf("%s: the face %d has %d levels", what, face, levels[face])
		}
	}
}

// checkAllLevels counts the faces of all columns and levels.
func checkAllLevels(t *testing.T, weights []int64) {
	t.Helper()
	total, n := totalOf(weights), int64(len(weights))
	counts := make([]int64, n)
	for column := range n {
		for level := range total {
			face, ok := impl.AliasFace(weights, column, level)
			if !ok || face < 0 || face >= n {
				t.Fatalf("AliasFace %v %d %d: got %d and %v", weights, column, level, face, ok)
			}
			counts[face]++
		}
	}
	for face, weight := range weights {
		if counts[face] != n*weight {
			t.Errorf("AliasFace %v: the face %d comes up %d times", weights, face, counts[face])
		}
	}
}

func TestColumns(t *testing.T) {
	for faces := 1; faces <= 4; faces++ {
		for total := int64(1); total <= 9; total++ {
			for _, weights := range listsWithSum(faces, total) {
				checkColumns(t, weights)
				checkAllLevels(t, weights)
			}
		}
	}
	d := draws(602)
	for _, total := range []int64{1, 2, 15, 16, 17, 100, 4096, 999999, 1000000} {
		for _, count := range []int{1, 2, 3, 5, 8, 15, 16} {
			for range 8 {
				weights := drawnWeights(count, total, &d)
				checkColumns(t, weights)
				if total <= 100 {
					checkAllLevels(t, weights)
				}
			}
		}
	}
	for _, weights := range slices.Concat(otherWeights(), someDyadics()) {
		checkColumns(t, weights)
	}
	for _, weights := range [][]int64{{1}, {1000000}, {0, 1000000}, {1, 999999}, {999999, 1}, {500000, 500000}, evenWeights(16, 62500), append(evenWeights(15, 0), 1000000), append(evenWeights(15, 1), 999985), append(evenWeights(15, 66666), 10), append([]int64{1}, evenWeights(15, 0)...)} {
		checkColumns(t, weights)
	}
}

func TestColumnsFail(t *testing.T) {
	for _, weights := range notWeights() {
		cuts, others, ok := impl.AliasTable(weights)
		expectNoList(t, fmt.Sprint("AliasTable ", weights), cuts, ok)
		expectNoList(t, fmt.Sprint("AliasTable ", weights), others, ok)
		for _, place := range [][2]int64{{0, 0}, {1, 0}, {0, 1}, {-1, 0}, {0, -1}} {
			face, ok := impl.AliasFace(weights, place[0], place[1])
			expectFail(t, fmt.Sprint("AliasFace ", weights, place), face, ok)
		}
	}
	for _, weights := range [][]int64{{1}, {1, 5, 0}, {3, 4, 1}, evenWeights(16, 62500), append(evenWeights(15, 0), 1)} {
		total, n := totalOf(weights), int64(len(weights))
		for _, place := range [][2]int64{
			{-1, 0}, {n, 0}, {0, -1}, {0, total}, {n, total}, {n - 1, total}, {n, total - 1}, {-1, -1}, {total, n},
			{math.MinInt64, 0}, {0, math.MinInt64}, {math.MaxInt64, 0}, {0, math.MaxInt64}, {16, 0}, {0, 1000000}, {17, 1000001},
		} {
			if 0 <= place[0] && place[0] < n && 0 <= place[1] && place[1] < total {
				continue
			}
			face, ok := impl.AliasFace(weights, place[0], place[1])
			expectFail(t, fmt.Sprint("AliasFace ", weights, place), face, ok)
		}
	}
}

func TestTreeAndColumnExamples(t *testing.T) {
	leaves, ok := impl.TreeLeaves([]int64{3, 4, 1})
	if want := "[[] [1] [0] [0 2]]"; !ok || fmt.Sprint(leaves) != want {
		t.Errorf("TreeLeaves: got %v and %v, want %s", leaves, ok, want)
	}
	cost, ok := impl.TreeCost([]int64{3, 4, 1})
	expect(t, "TreeCost", cost, ok, part(7, 4))
	cuts, others, ok := impl.AliasTable([]int64{3, 4, 1})
	expectList(t, "AliasTable", cuts, ok, []int64{4, 8, 3})
	expectList(t, "AliasTable", others, ok, []int64{1, 1, 0})
	// The least poor face is the one that has become poor by the first column.
	cuts, others, ok = impl.AliasTable([]int64{7, 0, 9, 0})
	expectList(t, "AliasTable", cuts, ok, []int64{12, 0, 16, 0})
	expectList(t, "AliasTable", others, ok, []int64{2, 0, 2, 2})
}
