package tests

import (
	"fmt"
	"math"
	"slices"
	"testing"

	"loop.example/g01121/impl"
)

// scatter is points with some bits.
type scatter struct {
	points [][]int64
	bits   int64
}

func (s scatter) sides() int { return len(s.points[0]) }

func (s scatter) String() string { return fmt.Sprint(s.points, " with ", s.bits, " bits") }

// scatterBy returns points with numbers as a function tells.
func scatterBy(count, sides int, bits int64, number func(i, side int) int64) scatter {
	s := scatter{nil, bits}
	for i := range count {
		point := []int64{}
		for side := range sides {
			point = append(point, number(i, side))
		}
		s.points = append(s.points, point)
	}
	return s
}

func drawnScatter(count, sides int, bits int64, d *draws) scatter {
	return scatterBy(count, sides, bits, func(int, int) int64 { return d.below(1 << bits) })
}

// allScatters returns all points of a form, or every so many of them.
func allScatters(count, sides int, bits int64, every int) []scatter {
	var list []scatter
	for index, numbers := range listsUpTo(repeated(int64(1)<<bits-1, count*sides)) {
		if index%every == 0 {
			list = append(list, scatterBy(count, sides, bits, func(i, side int) int64 { return numbers[i*sides+side] }))
		}
	}
	return list
}

func someScatters() []scatter {
	d := draws(1011)
	list := slices.Concat(
		allScatters(1, 1, 2, 1), allScatters(2, 1, 2, 1), allScatters(4, 1, 2, 1), allScatters(3, 1, 3, 1), allScatters(1, 2, 2, 1), allScatters(2, 2, 1, 1), allScatters(3, 2, 1, 1), allScatters(4, 2, 1, 1), allScatters(2, 2, 2, 1),
		allScatters(3, 2, 2, 7), allScatters(2, 3, 1, 1), allScatters(2, 4, 1, 1),
	)
	for sides := 1; sides <= 4; sides++ {
		for bits := int64(0); bits <= 6; bits++ {
			last := int64(1)<<bits - 1
			for _, count := range []int{1, 2, 3, 8, 17, 63, 64} {
				list = append(list, drawnScatter(count, sides, bits, &d))
			}
			for _, count := range []int{1, 5, 64} {
				middle := drawnScatter(1, sides, bits, &d).points[0]
				list = append(list,
					scatterBy(count, sides, bits, func(int, int) int64 { return 0 }), scatterBy(count, sides, bits, func(int, int) int64 { return last }),
					scatterBy(count, sides, bits, func(i, side int) int64 { return middle[side] }), scatterBy(count, sides, bits, func(i, side int) int64 { return int64((i+side)%2) * last }),
					scatterBy(count, sides, bits, func(i, side int) int64 { return int64(i) * int64(2*side+1) & last }),
				)
			}
			list = append(list, scatter{slowNetPoints(goodNet(bits, sides, &d)), bits}, scatter{slowNetPoints(drawnNet(bits, sides, &d)), bits})
		}
	}
	return list
}

// wrongScatters returns points that are not as required, nearly all for one
// reason.
func wrongScatters() []scatter {
	d := draws(1012)
	list := []scatter{{}, {nil, 6}, {[][]int64{}, 0}, {[][]int64{nil}, 0}, {repeated([]int64{}, 64), 3}, {[][]int64{{0}, {1}, {2}}[:0], 2}}
	for sides := 1; sides <= 4; sides++ {
		for bits := int64(0); bits <= 6; bits++ {
			list = append(list, drawnScatter(65, sides, bits, &d), drawnScatter(3, 5, bits, &d), drawnScatter(3, 0, bits, &d))
			for _, count := range []int{1, 2, 64} {
				good := drawnScatter(count, sides, bits, &d)
				for _, other := range []int64{-1, 7, 8, 63, 64, math.MinInt64, math.MaxInt64} {
					list = append(list, scatter{good.points, other})
				}
				for _, number := range []int64{-1, 1 << bits, 1<<bits + 1, 64, 1 << 40, math.MinInt64, math.MaxInt64} {
					list = append(list, good.with(0, sides-1, number), good.with(count-1, 0, number), good.with(count/2, sides/2, number))
				}
				if count > 1 {
					list = append(list, good.withPoint(0, nil), good.withPoint(count-1, nil))
					for _, length := range []int{sides - 1, sides + 1} {
						list = append(list, good.withPoint(0, repeated[int64](0, length)), good.withPoint(count-1, repeated[int64](0, length)))
					}
				}
			}
		}
	}
	return list
}

func (s scatter) withPoint(i int, point []int64) scatter {
	points := slices.Clone(s.points)
	points[i] = point
	return scatter{points, s.bits}
}

func (s scatter) with(i, side int, number int64) scatter {
	point := slices.Clone(s.points[i])
	point[side] = number
	return s.withPoint(i, point)
}

// allCuts returns all cuts that are as required.
func (s scatter) allCuts() [][]int64 {
	return slices.DeleteFunc(listsUpTo(repeated(s.bits, s.sides())), func(cuts []int64) bool { return sumOf(cuts) > 6 })
}

func sumOf(list []int64) int64 {
	sum := int64(0)
	for _, n := range list {
		sum += n
	}
	return sum
}

// slowCounts looks for all points in each box, which has all numbers from the
// beginning of its parts on and before their end.
func (s scatter) slowCounts(cuts []int64) []int64 {
	var last []int64
	for _, cut := range cuts {
		last = append(last, 1<<cut-1)
	}
	var counts []int64
	for _, parts := range listsUpTo(last) {
		count := int64(0)
		for _, point := range s.points {
			inside := true
			for side, part := range parts {
				length := int64(1) << s.bits / (last[side] + 1)
				inside = inside && part*length <= point[side] && point[side] < (part+1)*length
			}
			if inside {
				count++
			}
		}
		counts = append(counts, count)
	}
	return counts
}

func TestBoxExamples(t *testing.T) {
	points := [][]int64{{0, 0}, {1, 2}, {2, 1}, {3, 3}}
	counts, ok := impl.BoxCounts(points, 2, []int64{1, 2})
	expectList(t, "BoxCounts", counts, ok, []int64{1, 0, 1, 0, 0, 1, 0, 1})
	counts, ok = impl.BoxCounts(points, 2, []int64{0, 1})
	expectList(t, "BoxCounts", counts, ok, []int64{2, 2})
	counts, ok = impl.BoxCounts([][]int64{{0, 5, 7}, {7, 5, 0}, {6, 4, 1}}, 3, []int64{1, 1, 1})
	expectList(t, "BoxCounts", counts, ok, []int64{0, 0, 0, 1, 0, 0, 2, 0})
	moved, ok := impl.ShiftPoints(points, 2, []int64{1, 2})
	expectLists(t, "ShiftPoints", moved, ok, [][]int64{{1, 2}, {0, 0}, {3, 3}, {2, 1}})
	distance, ok := impl.StarDistance([][]int64{{0}, {1}}, 1)
	expect(t, "StarDistance", distance, ok, part(1, 2))
	distance, ok = impl.StarDistance([][]int64{{0}, {1}}, 2)
	expect(t, "StarDistance", distance, ok, part(3, 4))
}

func TestPoints(t *testing.T) {
	for _, s := range someScatters() {
		if !impl.IsPoints(s.points, s.bits) {
			t.Errorf("%v are not points", s)
		}
		// More bits only leave more room.
		if !impl.IsPoints(s.points, 6) {
			t.Errorf("%v are not points with 6 bits", s)
		}
	}
	for _, s := range wrongScatters() {
		if impl.IsPoints(s.points, s.bits) {
			t.Errorf("%v are points", s)
		}
	}
}

// Promise 11: boxes have the points that lie in them, and points are even if
// all boxes have as many.
func TestBoxes(t *testing.T) {
	even := 0
	for i, s := range someScatters() {
		all := s.allCuts()
		for k, cuts := range all {
			if len(all) > 30 && (i+k)%9 != 0 {
				continue
			}
			what := fmt.Sprint(s, " and the cuts ", cuts)
			want := s.slowCounts(cuts)
			counts, ok := impl.BoxCounts(s.points, s.bits, cuts)
			expectList(t, "BoxCounts of "+what, counts, ok, want)
			isEven := impl.IsEven(s.points, s.bits, cuts)
			if isEven != areAll(want, want[0]) {
				t.Errorf("IsEven of %s: got %v", what, isEven)
			}
			if isEven && sumOf(cuts) > 0 {
				even++
			}
		}
	}
	if even < 100 {
		t.Errorf("only %d of the points are even", even)
	}
}

// One box has all points, also without bits, and without cuts.
func TestBoxesWithoutCuts(t *testing.T) {
	for _, s := range someScatters() {
		cuts := repeated[int64](0, s.sides())
		counts, ok := impl.BoxCounts(s.points, s.bits, cuts)
		expectList(t, fmt.Sprint("BoxCounts of ", s, cuts), counts, ok, []int64{int64(len(s.points))})
		if !impl.IsEven(s.points, s.bits, cuts) {
			t.Errorf("%v are not even without cuts", s)
		}
	}
}

// wrongCuts returns cuts that are not as required, nearly all for one reason.
func (s scatter) wrongCuts() [][]int64 {
	none := repeated[int64](0, s.sides())
	with := func(side int, cut int64) []int64 {
		cuts := slices.Clone(none)
		cuts[side] = cut
		return cuts
	}
	lists := [][]int64{nil, none[1:], append(slices.Clone(none), 0), repeated[int64](0, 5)}
	for _, cut := range []int64{-1, s.bits + 1, s.bits + 2, 7, 63, 64, math.MinInt64, math.MaxInt64} {
		lists = append(lists, with(0, cut), with(s.sides()-1, cut))
	}
	for _, cuts := range listsUpTo(repeated(s.bits, s.sides())) {
		if sumOf(cuts) == 7 {
			lists = append(lists, cuts)
		}
	}
	// Their sum is right, but one of them is negative.
	if s.sides() > 1 && s.bits > 0 {
		cuts := with(0, -1)
		cuts[s.sides()-1] = 1
		lists = append(lists, cuts)
	}
	return append(lists, repeated(s.bits+1, s.sides()), repeated[int64](math.MaxInt64, s.sides()), repeated[int64](math.MinInt64, s.sides()))
}

func TestWrongCuts(t *testing.T) {
	d := draws(1013)
	for sides := 1; sides <= 4; sides++ {
		for bits := int64(0); bits <= 6; bits++ {
			for _, s := range []scatter{drawnScatter(1, sides, bits, &d), drawnScatter(64, sides, bits, &d), {slowNetPoints(goodNet(bits, sides, &d)), bits}} {
				for _, cuts := range s.wrongCuts() {
					expectNoBoxes(t, s, cuts)
				}
			}
		}
	}
}

func expectNoBoxes(t *testing.T, s scatter, cuts []int64) {
	t.Helper()
	counts, ok := impl.BoxCounts(s.points, s.bits, cuts)
	expectNoList(t, fmt.Sprint("BoxCounts of ", s, cuts), counts, ok)
	if impl.IsEven(s.points, s.bits, cuts) {
		t.Errorf("%v are even for the cuts %v", s, cuts)
	}
}

func TestWrongPoints(t *testing.T) {
	for _, s := range wrongScatters() {
		for sides := range 6 {
			none := repeated[int64](0, sides)
			expectNoBoxes(t, s, none)
			moved, ok := impl.ShiftPoints(s.points, s.bits, none)
			expectNoLists(t, fmt.Sprint("ShiftPoints of ", s), moved, ok)
		}
		distance, ok := impl.StarDistance(s.points, s.bits)
		expectFail(t, fmt.Sprint("StarDistance of ", s), distance, ok)
	}
}

// checkShift compares digit by digit, and shifts back.
func checkShift(t *testing.T, s scatter, by []int64) {
	t.Helper()
	want := scatterBy(len(s.points), s.sides(), s.bits, func(i, side int) int64 {
		number := int64(0)
		for digit := range s.bits {
			if s.points[i][side]>>digit&1 != by[side]>>digit&1 {
				number += 1 << digit
			}
		}
		return number
	}).points
	moved, ok := impl.ShiftPoints(s.points, s.bits, by)
	back, backOK := impl.ShiftPoints(moved, s.bits, by)
	expectLists(t, fmt.Sprint("ShiftPoints of ", s, by), moved, ok, want)
	expectLists(t, fmt.Sprint("ShiftPoints back of ", s, by), back, backOK, s.points)
}

// Promise 11: shifted points of a net are as even as before.
func TestShiftedPoints(t *testing.T) {
	d := draws(1014)
	for _, s := range someScatters() {
		last := int64(1)<<s.bits - 1
		drawn := drawnScatter(1, s.sides(), s.bits, &d).points[0]
		for _, by := range [][]int64{repeated[int64](0, s.sides()), repeated(last, s.sides()), drawn} {
			checkShift(t, s, by)
		}
	}
	for _, n := range someNets() {
		if n.Bits < 3 {
			continue
		}
		sides := len(n.Matrices)
		quality, _ := impl.QualityOf(n)
		moved, _ := impl.ShiftPoints(slowNetPoints(n), n.Bits, drawnScatter(1, sides, n.Bits, &d).points[0])
		for _, cuts := range listsWithSum(sides, n.Bits-quality) {
			if !impl.IsEven(moved, n.Bits, cuts) {
				t.Errorf("shifted points of %v are not even for %v", n, cuts)
			}
		}
	}
}

func TestWrongShifts(t *testing.T) {
	d := draws(1015)
	for sides := 1; sides <= 4; sides++ {
		for bits := int64(0); bits <= 6; bits++ {
			s := drawnScatter(5, sides, bits, &d)
			lists := [][]int64{nil, repeated[int64](0, sides-1), repeated[int64](0, sides+1), repeated[int64](0, 5)}
			for _, number := range []int64{-1, 1 << bits, 1<<bits + 1, 64, math.MinInt64, math.MaxInt64} {
				for _, side := range []int{0, sides - 1} {
					by := repeated[int64](0, sides)
					by[side] = number
					lists = append(lists, by)
				}
			}
			for _, by := range lists {
				moved, ok := impl.ShiftPoints(s.points, s.bits, by)
				expectNoLists(t, fmt.Sprint("ShiftPoints of ", s, by), moved, ok)
			}
		}
	}
}

// fineness is how many steps the ends of boxes have between two numbers.
const fineness = 1000000

// deviation returns the absolute difference of the part of the points in a box,
// whose ends are told in steps, and its size, times the number of the points
// and the numbers of steps on all sides.
func (s scatter) deviation(ends []int64) int64 {
	size, whole, count := int64(1), int64(1), int64(0)
	for _, end := range ends {
		size *= end
		whole *= fineness << s.bits
	}
	for _, point := range s.points {
		inside := true
		for side, end := range ends {
			inside = inside && point[side]*fineness < end
		}
		if inside {
			count++
		}
	}
	difference := size*int64(len(s.points)) - count*whole
	return max(difference, -difference)
}

// checkStar requires that boxes which end at a number, or a step above it,
// deviate nearly as much as the star distance tells, that no box deviates more,
// and no drawn one either.
func checkStar(t *testing.T, s scatter, d *draws) {
	t.Helper()
	distance, ok := impl.StarDistance(s.points, s.bits)
	all := int64(len(s.points)) << (s.bits * int64(s.sides()))
	if !ok || !impl.ValidFraction(distance) || all%distance.Den != 0 {
		t.Fatalf("StarDistance of %v: got %v and %v", s, distance, ok)
	}
	told := all / distance.Den * distance.Num
	for range s.sides() {
		told *= fineness
	}
	ends := []int64{fineness << s.bits}
	for n := range int64(1) << s.bits {
		ends = append(ends, n*fineness, n*fineness+1)
	}
	greatest := int64(0)
	for _, x := range ends {
		if s.sides() == 1 {
			greatest = max(greatest, s.deviation([]int64{x}))
			continue
		}
		for _, y := range ends {
			greatest = max(greatest, s.deviation([]int64{x, y}))
		}
	}
	// A step changes the size of a box by at most a part of its other side.
	slack := int64(len(s.points))
	if s.sides() == 2 {
		slack *= 2*fineness<<s.bits + 1
	}
	if told < greatest || told > greatest+slack {
		t.Errorf("StarDistance of %v: got %v, but boxes deviate by %d of %d", s, distance, greatest, told)
	}
	for range 20 {
		box := drawnScatter(1, s.sides(), 0, d).points[0]
		for side := range box {
			box[side] = d.below(fineness<<s.bits + 1)
		}
		if s.deviation(box) > told {
			t.Errorf("StarDistance of %v: got %v, but the box %v deviates more", s, distance, box)
		}
	}
}

// Promise 11: no box differs by more than the star distance, and boxes come as
// near to it as one likes.
func TestStarDistances(t *testing.T) {
	d := draws(1016)
	for _, s := range someScatters() {
		if s.sides() <= 2 {
			checkStar(t, s, &d)
		}
	}
}

// Points told by hand: boxes from above decide for points near 0, and those
// without points for points near 1.
func TestStarDistancesByHand(t *testing.T) {
	for bits := int64(0); bits <= 6; bits++ {
		size := int64(1) << bits
		for number := range size {
			above, below := size-number, number
			want, _ := impl.MakeFraction(max(above, below), size)
			for _, count := range []int{1, 2, 64} {
				distance, ok := impl.StarDistance(repeated([]int64{number}, count), bits)
				expect(t, fmt.Sprintf("StarDistance of %d points at %d of %d", count, number, size), distance, ok, want)
			}
			// On two sides, a box near above both numbers has the least size
			// with all points, and one up to one of them has the greatest size
			// without points.
			want, _ = impl.MakeFraction(max(size*size-number*number, number*size), size*size)
			distance, ok := impl.StarDistance([][]int64{{number, number}}, bits)
			expect(t, fmt.Sprintf("StarDistance of a point at %d of %d twice", number, size), distance, ok, want)
		}
		// All numbers once are as even as they can be when they begin with 0.
		line := scatterBy(int(size), 1, bits, func(i, side int) int64 { return int64(i) })
		distance, ok := impl.StarDistance(line.points, bits)
		want, _ := impl.MakeFraction(1, size)
		expect(t, fmt.Sprint("StarDistance of all numbers of ", size), distance, ok, want)
	}
	distance, ok := impl.StarDistance([][]int64{{0, 0}}, 0)
	expect(t, "StarDistance without bits", distance, ok, part(1, 1))
	distance, ok = impl.StarDistance([][]int64{{16}, {48}}, 6)
	expect(t, "StarDistance of the middles of two halves", distance, ok, part(1, 4))
	distance, ok = impl.StarDistance([][]int64{{3, 0}, {0, 3}}, 2)
	expect(t, "StarDistance of two corners", distance, ok, part(9, 16))
	distance, ok = impl.StarDistance([][]int64{{1, 1}, {1, 3}, {3, 1}, {3, 3}}, 2)
	expect(t, "StarDistance of four middles", distance, ok, part(7, 16))
}

func TestStarDistancesOfOtherSides(t *testing.T) {
	d := draws(1017)
	for _, sides := range []int{3, 4} {
		for bits := int64(0); bits <= 6; bits++ {
			for _, count := range []int{1, 2, 64} {
				s := drawnScatter(count, sides, bits, &d)
				distance, ok := impl.StarDistance(s.points, bits)
				expectFail(t, fmt.Sprint("StarDistance of ", s), distance, ok)
			}
		}
	}
}
