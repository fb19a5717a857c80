package tests

import (
	"fmt"
	"math"
	"runtime"
	"slices"
	"sync"
	"testing"

	"loop.example/g01121/impl"
)

func expectLists(t *testing.T, what string, got [][]int64, ok bool, want [][]int64) {
	t.Helper()
	if !ok || !slices.EqualFunc(got, want, slices.Equal) {
		t.Errorf("%s: got %v and %v, want %v", what, got, ok, want)
	}
	checkOwnMemory(t, what, got)
}

func expectNoLists(t *testing.T, what string, got [][]int64, ok bool) {
	t.Helper()
	if ok || len(got) != 0 {
		t.Errorf("%s: got %v and %v, want it to fail", what, got, ok)
	}
}

// checkOwnMemory requires that no two lists share memory, also behind their
// ends. It overwrites them.
func checkOwnMemory(t *testing.T, what string, lists [][]int64) {
	t.Helper()
	for i, list := range lists {
		whole := list[:cap(list)]
		for k := range whole {
			whole[k] = int64(i)
		}
	}
	for i, list := range lists {
		if !areAll(list[:cap(list)], int64(i)) {
			t.Errorf("%s: the list %d shares memory with another one", what, i)
		}
	}
}

func areAll(list []int64, number int64) bool {
	return !slices.ContainsFunc(list, func(n int64) bool { return n != number })
}

func expectNet(t *testing.T, what string, got impl.Net, ok bool, want impl.Net) {
	t.Helper()
	if got.Bits != want.Bits {
		t.Errorf("%s: got %d bits, want %d", what, got.Bits, want.Bits)
	}
	expectLists(t, what, got.Matrices, ok, want.Matrices)
}

func expectNoNet(t *testing.T, what string, got impl.Net, ok bool) {
	t.Helper()
	if got.Bits != 0 {
		t.Errorf("%s: got %d bits, want it to fail", what, got.Bits)
	}
	expectNoLists(t, what, got.Matrices, ok)
}

// netBy returns the net with rows as a function tells.
func netBy(bits int64, sides int, row func(side, i int64) int64) impl.Net {
	n := impl.Net{Bits: bits}
	for side := range int64(sides) {
		rows := []int64{}
		for i := range bits {
			rows = append(rows, row(side, i))
		}
		n.Matrices = append(n.Matrices, rows)
	}
	return n
}

// allNets returns all nets of a form, or every so many of them.
func allNets(bits int64, sides int, every int64) []impl.Net {
	var nets []impl.Net
	for index := int64(0); index < int64(1)<<(bits*bits*int64(sides)); index += every {
		nets = append(nets, netBy(bits, sides, func(side, i int64) int64 {
			return index >> (bits * (bits*side + i)) & (1<<bits - 1)
		}))
	}
	return nets
}

func drawnNet(bits int64, sides int, d *draws) impl.Net {
	return netBy(bits, sides, func(side, i int64) int64 { return d.below(1 << bits) })
}

// goodNet returns a net with the quality 0 on up to three sides: those of the
// numbers, of their reversed digits, and of the ways to choose. The fourth side
// is drawn.
func goodNet(bits int64, sides int, d *draws) impl.Net {
	return netBy(bits, sides, func(side, i int64) int64 {
		row := int64(0)
		for j := range bits {
			bit := []bool{j == bits-1-i, j == i, j >= i && binomial(j, min(i, j))%2 == 1, d.below(2) == 1}[side]
			if bit {
				row |= 1 << j
			}
		}
		return row
	})
}

// changedNet returns a net with another row.
func changedNet(n impl.Net, side, i int, row int64) impl.Net {
	changed := impl.Net{Bits: n.Bits}
	for _, rows := range n.Matrices {
		changed.Matrices = append(changed.Matrices, slices.Clone(rows))
	}
	changed.Matrices[side][i] = row
	return changed
}

// bluntNets returns nets with worse and worse qualities: in each one, a row is
// the sum of those before it.
func bluntNets(bits int64, sides int, d *draws) []impl.Net {
	var nets []impl.Net
	good := goodNet(bits, sides, d)
	for side := range sides {
		sum := int64(0)
		for i := range int(bits) {
			nets = append(nets, changedNet(good, side, i, sum))
			sum ^= good.Matrices[side][i]
		}
	}
	return nets
}

func someNets() []impl.Net {
	d := draws(1001)
	nets := slices.Concat(allNets(2, 1, 1), allNets(2, 2, 1), allNets(2, 3, 17), allNets(2, 4, 211), allNets(3, 1, 1), allNets(3, 2, 997))
	for sides := 1; sides <= 4; sides++ {
		nets = slices.Concat(nets, allNets(0, sides, 1), allNets(1, sides, 1))
		for bits := int64(0); bits <= 6; bits++ {
			nets = append(nets, goodNet(bits, sides, &d), netBy(bits, sides, func(side, i int64) int64 { return 1 << i }))
			nets = append(nets, bluntNets(bits, sides, &d)...)
			for range 6 {
				nets = append(nets, drawnNet(bits, sides, &d))
			}
		}
	}
	return nets
}

// wrongNets returns nets that are not valid, nearly all for one reason.
func wrongNets() []impl.Net {
	d := draws(1002)
	nets := []impl.Net{
		{}, {Bits: 1}, {Matrices: [][]int64{{0}}}, {Matrices: [][]int64{{}, {0}}}, {Matrices: [][]int64{{1}, {}}}, {Matrices: repeated([]int64{}, 5)}, {Matrices: repeated([]int64(nil), 6)},
		{Bits: 2, Matrices: [][]int64{[]int64{1, 2, 3}[:1], {1, 2}}}, {Bits: 2, Matrices: [][]int64{{1, 2}, []int64{1, 2}[:0]}}, {Bits: 7, Matrices: repeated(valuesFrom(1, 1, 7), 2)}, drawnNet(7, 1, &d), drawnNet(7, 4, &d),
	}
	for bits := int64(0); bits <= 6; bits++ {
		nets = append(nets, netBy(bits, 0, nil), drawnNet(bits, 5, &d))
		for sides := 1; sides <= 4; sides++ {
			good := goodNet(bits, sides, &d)
			for _, other := range []int64{-1, bits - 1, bits + 1, 7, 64, math.MinInt64, math.MaxInt64} {
				nets = append(nets, impl.Net{Bits: other, Matrices: good.Matrices})
			}
			for _, side := range []int{0, sides - 1} {
				nets = append(nets, changedMatrix(good, side, append(slices.Clone(good.Matrices[side]), 0)))
				if bits == 0 {
					continue
				}
				nets = append(nets, changedMatrix(good, side, good.Matrices[side][1:]), changedMatrix(good, side, nil))
				for _, row := range []int64{-1, 1 << bits, 1<<bits + 1, 64, 1 << 40, math.MinInt64, math.MaxInt64} {
					nets = append(nets, changedNet(good, side, 0, row), changedNet(good, side, int(bits)-1, row))
				}
			}
		}
	}
	return nets
}

func changedMatrix(n impl.Net, side int, rows []int64) impl.Net {
	changed := impl.Net{Bits: n.Bits, Matrices: slices.Clone(n.Matrices)}
	changed.Matrices[side] = rows
	return changed
}

// slowNetPoints adds digit to digit, as the document tells it.
func slowNetPoints(n impl.Net) [][]int64 {
	var points [][]int64
	for k := range int64(1) << n.Bits {
		var point []int64
		for _, rows := range n.Matrices {
			number := int64(0)
			for i, row := range rows {
				number += parityOf(row&k) << (n.Bits - 1 - int64(i))
			}
			point = append(point, number)
		}
		points = append(points, point)
	}
	return points
}

// areEven reports whether all boxes have as many of the points.
func areEven(points [][]int64, bits int64, cuts []int64) bool {
	counts, all := map[[4]int64]int{}, 0
	for _, point := range points {
		var box [4]int64
		for side, cut := range cuts {
			box[side] = point[side] << cut >> bits
		}
		counts[box]++
	}
	for _, cut := range cuts {
		all += int(cut)
	}
	for _, count := range counts {
		if count<<all != len(points) {
			return false
		}
	}
	return true
}

// haveZeroSum reports whether some of the rows, at least one, have the sum 0.
func haveZeroSum(rows []int64) bool {
	for chosen := int64(1); chosen < int64(1)<<len(rows); chosen++ {
		sum := int64(0)
		for i, row := range rows {
			sum ^= chosen >> i & 1 * row
		}
		if sum == 0 {
			return true
		}
	}
	return false
}

func qualityByRows(n impl.Net) int64 {
	for quality := range n.Bits {
		dependent := slices.ContainsFunc(listsWithSum(len(n.Matrices), n.Bits-quality), func(counts []int64) bool {
			var rows []int64
			for side, count := range counts {
				rows = append(rows, n.Matrices[side][:count]...)
			}
			return haveZeroSum(rows)
		})
		if !dependent {
			return quality
		}
	}
	return n.Bits
}

func TestLimitsOfPoints(t *testing.T) {
	got := []int64{impl.MaxNetBits, impl.MaxNetSides, impl.MaxPoints, impl.MaxBase, impl.MaxInverted, impl.MaxGrid}
	if !slices.Equal(got, []int64{6, 4, 64, 36, 1000000, 400}) {
		t.Errorf("got %v", got)
	}
}

func TestNetExamples(t *testing.T) {
	n, ok := impl.ReversedNet(2)
	points, pointsOK := impl.NetPoints(n)
	quality, qualityOK := impl.QualityOf(n)
	expectLists(t, "NetPoints", points, pointsOK, [][]int64{{0, 0}, {1, 2}, {2, 1}, {3, 3}})
	expect(t, "QualityOf", quality, qualityOK, 0)
	expectNet(t, "ReversedNet 2", n, ok, impl.Net{Bits: 2, Matrices: [][]int64{{2, 1}, {1, 2}}})
	n, ok = impl.PascalNet(4)
	expectNet(t, "PascalNet 4", n, ok, impl.Net{Bits: 4, Matrices: [][]int64{{1, 2, 4, 8}, {15, 10, 12, 8}}})
	n, ok = impl.ScrambleNet(impl.Net{Bits: 3, Matrices: [][]int64{{1, 2, 4}, {7, 2, 4}}}, 1, []int64{1, 3, 6})
	expectNet(t, "ScrambleNet", n, ok, impl.Net{Bits: 3, Matrices: [][]int64{{1, 2, 4}, {7, 5, 6}}})
}

// Without bits, there is one point, whose numbers are 0.
func TestNetsWithoutBits(t *testing.T) {
	for sides := 1; sides <= 4; sides++ {
		for _, rows := range [][]int64{nil, {}, repeated[int64](1, 0)} {
			n := impl.Net{Matrices: repeated(rows, sides)}
			if !impl.ValidNet(n) {
				t.Errorf("%v is not valid", n)
			}
			points, ok := impl.NetPoints(n)
			expectLists(t, "NetPoints", points, ok, [][]int64{repeated[int64](0, sides)})
			quality, ok := impl.QualityOf(n)
			expect(t, "QualityOf", quality, ok, 0)
			for side := range int64(sides) {
				scrambled, ok := impl.ScrambleNet(n, side, repeated[int64](1, 0))
				expectNet(t, "ScrambleNet", scrambled, ok, n)
			}
		}
	}
	empty := impl.Net{Matrices: [][]int64{{}, {}}}
	n, ok := impl.ReversedNet(0)
	expectNet(t, "ReversedNet 0", n, ok, empty)
	n, ok = impl.PascalNet(0)
	expectNet(t, "PascalNet 0", n, ok, empty)
}

// Promise 11: the points are those of the rows, and they are even for all cuts
// exactly as far as the quality tells.
func TestNetsAreEven(t *testing.T) {
	seen := map[form]map[int64]bool{}
	for _, n := range someNets() {
		if !impl.ValidNet(n) {
			t.Fatalf("%v is not valid", n)
		}
		want := slowNetPoints(n)
		points, ok := impl.NetPoints(n)
		expectLists(t, fmt.Sprint("NetPoints ", n), points, ok, want)
		quality, ok := impl.QualityOf(n)
		expect(t, fmt.Sprint("QualityOf ", n), quality, ok, qualityByRows(n))
		for other := range n.Bits + 1 {
			even := true
			for _, cuts := range listsWithSum(len(n.Matrices), n.Bits-other) {
				even = even && areEven(want, n.Bits, cuts)
			}
			if even != (other >= quality) {
				t.Errorf("QualityOf %v: got %d, but the points are even for %d: %v", n, quality, other, even)
			}
		}
		f := form{n.Bits, len(n.Matrices)}
		if seen[f] == nil {
			seen[f] = map[int64]bool{}
		}
		seen[f][quality] = true
	}
	for sides := 1; sides <= 4; sides++ {
		for bits := int64(0); bits <= 6; bits++ {
			f := form{bits, sides}
			for quality := f.bestQuality(); quality <= bits; quality++ {
				if !seen[f][quality] {
					t.Errorf("no net with %d bits, %d sides and the quality %d has been tried", bits, sides, quality)
				}
			}
		}
	}
}

type form struct {
	bits  int64
	sides int
}

// bestQuality returns the least quality that is tried. With four sides and at
// least two bits, no net has the quality 0.
func (f form) bestQuality() int64 {
	if f.sides < 4 || f.bits < 2 {
		return 0
	}
	return (f.bits + 1) / 2
}

func TestReversedNets(t *testing.T) {
	for bits := int64(0); bits <= 6; bits++ {
		n, ok := impl.ReversedNet(bits)
		var want [][]int64
		for k := range int64(1) << bits {
			reversed := int64(0)
			for i := range bits {
				reversed = reversed<<1 | k>>i&1
			}
			want = append(want, []int64{k, reversed})
		}
		points, pointsOK := impl.NetPoints(n)
		expectLists(t, fmt.Sprint("the points of ReversedNet ", bits), points, pointsOK, want)
		quality, qualityOK := impl.QualityOf(n)
		expect(t, fmt.Sprint("the quality of ReversedNet ", bits), quality, qualityOK, 0)
		expectNet(t, fmt.Sprint("ReversedNet ", bits), n, ok, goodNet(bits, 2, new(draws)))
	}
}

func TestPascalNets(t *testing.T) {
	for bits := int64(0); bits <= 6; bits++ {
		n, ok := impl.PascalNet(bits)
		quality, qualityOK := impl.QualityOf(n)
		expect(t, fmt.Sprint("the quality of PascalNet ", bits), quality, qualityOK, 0)
		good := goodNet(bits, 3, new(draws))
		expectNet(t, fmt.Sprint("PascalNet ", bits), n, ok, impl.Net{Bits: bits, Matrices: good.Matrices[1:]})
		reversed, _ := impl.ReversedNet(bits)
		again, _ := impl.PascalNet(bits)
		if !slices.Equal(reversed.Matrices[1], again.Matrices[0]) {
			t.Errorf("PascalNet %d: got the first matrix %v, want %v", bits, again.Matrices[0], reversed.Matrices[1])
		}
	}
}

func TestWrongNetBits(t *testing.T) {
	for _, bits := range []int64{-1, -2, 7, 8, 16, 62, 63, 64, math.MinInt64, math.MaxInt64} {
		n, ok := impl.ReversedNet(bits)
		expectNoNet(t, fmt.Sprint("ReversedNet ", bits), n, ok)
		n, ok = impl.PascalNet(bits)
		expectNoNet(t, fmt.Sprint("PascalNet ", bits), n, ok)
	}
}

func TestWrongNets(t *testing.T) {
	for _, n := range wrongNets() {
		what := fmt.Sprint(n)
		if impl.ValidNet(n) {
			t.Errorf("%v is valid", what)
		}
		points, ok := impl.NetPoints(n)
		expectNoLists(t, "NetPoints "+what, points, ok)
		quality, ok := impl.QualityOf(n)
		expectFail(t, "QualityOf "+what, quality, ok)
		for bits := range 8 {
			for _, side := range []int64{0, int64(len(n.Matrices)) - 1} {
				scrambled, ok := impl.ScrambleNet(n, side, lowerBits(bits))
				expectNoNet(t, "ScrambleNet "+what, scrambled, ok)
			}
		}
	}
}

// lowerBits returns the list that scrambles nothing.
func lowerBits(bits int) []int64 {
	lower := []int64{}
	for i := range bits {
		lower = append(lower, 1<<i)
	}
	return lower
}

func allLower(bits int64) [][]int64 {
	var greatest []int64
	for i := range bits {
		greatest = append(greatest, 1<<i-1)
	}
	lists := listsUpTo(greatest)
	for _, list := range lists {
		for i := range list {
			list[i] |= 1 << i
		}
	}
	return lists
}

func someLower(bits int64, d *draws) [][]int64 {
	if bits <= 3 {
		return allLower(bits)
	}
	lists := [][]int64{lowerBits(int(bits)), {}, {}, {}}
	for i := range bits {
		lists[1] = append(lists[1], 1<<(i+1)-1)
		lists[2] = append(lists[2], 1<<i|d.below(1<<i))
		lists[3] = append(lists[3], 1<<i|d.below(1<<i))
	}
	return lists
}

// checkScramble returns how many points are no longer the same.
func checkScramble(t *testing.T, n impl.Net, side int64, lower []int64) int {
	t.Helper()
	what := fmt.Sprint("ScrambleNet ", n, side, lower)
	want := netBy(n.Bits, len(n.Matrices), func(other, i int64) int64 {
		if other != side {
			return n.Matrices[other][i]
		}
		sum := int64(0)
		for k, row := range n.Matrices[side] {
			sum ^= lower[i] >> k & 1 * row
		}
		return sum
	})
	scrambled, ok := impl.ScrambleNet(n, side, lower)
	before, _ := impl.QualityOf(n)
	quality, qualityOK := impl.QualityOf(scrambled)
	expect(t, "the quality behind "+what, quality, qualityOK, before)
	expectNet(t, what, scrambled, ok, want)
	changed := 0
	for k, point := range slowNetPoints(want) {
		if !slices.Equal(point, slowNetPoints(n)[k]) {
			changed++
		}
	}
	return changed
}

// Promise 11: scrambled points are others, with the same quality.
func TestScrambledNets(t *testing.T) {
	d := draws(1003)
	changed := 0
	for i, n := range someNets() {
		if i%3 != 0 && n.Bits > 1 {
			continue
		}
		for side := range int64(len(n.Matrices)) {
			for _, lower := range someLower(n.Bits, &d) {
				changed += checkScramble(t, n, side, lower)
			}
		}
	}
	if changed == 0 {
		t.Error("no point has been changed")
	}
}

func TestWrongScrambles(t *testing.T) {
	d := draws(1004)
	for bits := int64(0); bits <= 6; bits++ {
		for sides := 1; sides <= 4; sides++ {
			n := goodNet(bits, sides, &d)
			for _, side := range []int64{-1, int64(sides), int64(sides) + 1, 4, math.MinInt64, math.MaxInt64} {
				scrambled, ok := impl.ScrambleNet(n, side, lowerBits(int(bits)))
				expectNoNet(t, fmt.Sprint("ScrambleNet ", n, side), scrambled, ok)
			}
			for _, lower := range wrongLower(bits) {
				for _, side := range []int64{0, int64(sides) - 1} {
					scrambled, ok := impl.ScrambleNet(n, side, lower)
					expectNoNet(t, fmt.Sprint("ScrambleNet ", n, side, lower), scrambled, ok)
				}
			}
		}
	}
}

// wrongLower returns lists that scramble no net with some bits.
func wrongLower(bits int64) [][]int64 {
	lists := [][]int64{append(lowerBits(int(bits)), 1<<bits), append(lowerBits(int(bits)), 0)}
	if bits > 0 {
		lists = append(lists, lowerBits(int(bits)-1), nil, repeated[int64](0, int(bits)), repeated[int64](-1, int(bits)))
	}
	for i := range bits {
		for _, mask := range []int64{0, 1<<i - 1, 1 << (i + 1), 1<<(i+1) | 1<<i, -1, -1 << i, 1<<32 | 1<<i, math.MinInt64 | 1<<i, math.MaxInt64} {
			lower := lowerBits(int(bits))
			lower[i] = mask
			lists = append(lists, lower)
		}
	}
	return lists
}

// Workers are joined before a call returns, so that calls at the same time do
// not disturb one another and none of them leaves a worker behind.
func TestWorkersOfPoints(t *testing.T) {
	pascal, _ := impl.PascalNet(6)
	points, _ := impl.NetPoints(pascal)
	distance, _ := impl.StarDistance(points, 6)
	before := runtime.NumGoroutine()
	var calls sync.WaitGroup
	for range 16 {
		calls.Go(func() {
			again, ok := impl.NetPoints(pascal)
			far, farOK := impl.StarDistance(points, 6)
			expect(t, "StarDistance", far, farOK, distance)
			expectLists(t, "NetPoints", again, ok, points)
			quality, ok := impl.QualityOf(pascal)
			expect(t, "QualityOf", quality, ok, 0)
		})
	}
	calls.Wait()
	// A worker may need a moment to end, but none of them waits for anything.
	for range 1000000 {
		if runtime.NumGoroutine() <= before {
			return
		}
		runtime.Gosched()
	}
	t.Errorf("there are %d workers, %d before", runtime.NumGoroutine(), before)
}
