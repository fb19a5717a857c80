package tests

import (
	"fmt"
	"math"
	"slices"
	"testing"

	"loop.example/g01121/impl"
)

// slowTemper changes a word bit by bit.
func slowTemper(m impl.Temper, y int64) int64 {
	y = shiftedOr(y, 16, -m.Down1, -1)
	y = shiftedOr(y, 16, m.Up1, m.Mask1)
	y = shiftedOr(y, 16, m.Up2, m.Mask2)
	return shiftedOr(y, 16, -m.Down2, -1)
}

// still returns the temper that changes nothing.
func still() impl.Temper { return impl.Temper{Down1: 16, Up1: 16, Up2: 16, Down2: 16} }

func drawnTemper(d *draws) impl.Temper {
	return impl.Temper{Down1: 1 + d.below(16), Up1: 1 + d.below(16), Mask1: d.below(65536), Up2: 1 + d.below(16), Mask2: d.below(65536), Down2: 1 + d.below(16)}
}

func someTempers() []impl.Temper {
	d := draws(821)
	list := []impl.Temper{
		still(), {Down1: 1, Up1: 1, Mask1: 65535, Up2: 1, Mask2: 65535, Down2: 1}, {Down1: 1, Up1: 1, Up2: 1, Down2: 1},
		{Down1: 8, Up1: 4, Mask1: 65535, Up2: 16, Mask2: 65535, Down2: 16}, {Down1: 11, Up1: 7, Mask1: 40320, Up2: 15, Mask2: 61382, Down2: 5},
	}
	for range 4 {
		list = append(list, drawnTemper(&d))
	}
	return list
}

// moveOf and maskOf return a part of a temper by its number.
func moveOf(m *impl.Temper, i int) *int64 {
	return []*int64{&m.Down1, &m.Up1, &m.Up2, &m.Down2}[i]
}

func maskOf(m *impl.Temper, i int) *int64 { return []*int64{&m.Mask1, &m.Mask2}[i] }

// wrongTempers returns tempers of which one part is not as required.
func wrongTempers() []impl.Temper {
	list := []impl.Temper{{}, {Down1: -1, Up1: -1, Mask1: -1, Up2: -1, Mask2: -1, Down2: -1}}
	for _, good := range someTempers() {
		for i := range 4 {
			for _, wrong := range []int64{-1, 0, 17, 64, 1 << 32, math.MinInt64, math.MaxInt64} {
				bad := good
				*moveOf(&bad, i) = wrong
				list = append(list, bad)
			}
		}
		for i := range 2 {
			for _, wrong := range []int64{-1, 65536, 65537, 1 << 32, math.MinInt64, math.MaxInt64} {
				bad := good
				*maskOf(&bad, i) = wrong
				list = append(list, bad)
			}
		}
	}
	return list
}

func TestValidTempers(t *testing.T) {
	for _, good := range someTempers() {
		for i := range 4 {
			for _, move := range []int64{1, 2, 15, 16} {
				m := good
				*moveOf(&m, i) = move
				if !impl.ValidTemper(m) {
					t.Errorf("%v is not valid", m)
				}
			}
		}
		for i := range 2 {
			for _, mask := range []int64{0, 1, 32768, 65534, 65535} {
				m := good
				*maskOf(&m, i) = mask
				if !impl.ValidTemper(m) {
					t.Errorf("%v is not valid", m)
				}
			}
		}
	}
	for _, m := range wrongTempers() {
		if impl.ValidTemper(m) {
			t.Errorf("%v is valid", m)
		}
	}
}

// checkTemper tempers a word, and takes it back as what a word becomes.
func checkTemper(t *testing.T, m impl.Temper, word int64) {
	t.Helper()
	want := slowTemper(m, word)
	z, ok := impl.TemperWord(m, word)
	expect(t, fmt.Sprint("TemperWord ", m, " ", word), z, ok, want)
	y, ok := impl.UntemperWord(m, want)
	expect(t, fmt.Sprint("UntemperWord ", m, " ", want), y, ok, word)
	before, ok := impl.UntemperWord(m, word)
	if !ok || slowTemper(m, before) != word {
		t.Errorf("UntemperWord %v %d: got %d and %v", m, word, before, ok)
	}
}

func TestTemperAllWords(t *testing.T) {
	for _, m := range someTempers() {
		for word := range int64(65536) {
			z, ok := impl.TemperWord(m, word)
			if want := slowTemper(m, word); !ok || z != want {
				t.Fatalf("TemperWord %v %d: got %d and %v, want %d", m, word, z, ok, want)
			}
			if y, ok := impl.UntemperWord(m, z); !ok || y != word {
				t.Fatalf("UntemperWord %v %d: got %d and %v, want %d", m, z, y, ok, word)
			}
		}
	}
}

// Each move alone, and each with others, for words with one bit and some more.
func TestTemperMoves(t *testing.T) {
	d := draws(822)
	words := []int64{0, 65535, 0xaaaa, 0x5555, d.below(65536), d.below(65536)}
	for i := range 16 {
		words = append(words, 1<<i)
	}
	for move := int64(1); move <= 16; move++ {
		for i := range 4 {
			for _, mask := range []int64{0, 65535, 0xaaaa, 1, 32768, d.below(65536)} {
				alone, among := still(), drawnTemper(&d)
				for _, m := range []*impl.Temper{&alone, &among} {
					*moveOf(m, i) = move
					*maskOf(m, i%2) = mask
					*maskOf(m, (i+1)%2) = 65535 ^ mask
					for _, word := range words {
						checkTemper(t, *m, word)
					}
				}
			}
		}
	}
}

func TestTempersFail(t *testing.T) {
	for _, m := range wrongTempers() {
		for _, word := range []int64{-1, 0, 1, 65535, 65536} {
			z, ok := impl.TemperWord(m, word)
			expectFail(t, fmt.Sprint("TemperWord ", m, " ", word), z, ok)
			y, ok := impl.UntemperWord(m, word)
			expectFail(t, fmt.Sprint("UntemperWord ", m, " ", word), y, ok)
		}
	}
	for _, m := range someTempers() {
		for _, word := range []int64{-1, 65536, 65537, 1 << 17, 1 << 32, math.MinInt64, math.MaxInt64} {
			z, ok := impl.TemperWord(m, word)
			expectFail(t, fmt.Sprint("TemperWord ", m, " ", word), z, ok)
			y, ok := impl.UntemperWord(m, word)
			expectFail(t, fmt.Sprint("UntemperWord ", m, " ", word), y, ok)
		}
	}
}

// shownFrom returns what is seen of a seed and the numbers that follow.
func shownFrom(a, c, seed int64, count int) []int64 {
	var shown []int64
	for range count {
		shown = append(shown, seed/256)
		seed = (a*seed + c) % 65536
	}
	return shown
}

// slowSeeds tries all seeds.
func slowSeeds(a, c int64, shown []int64) []int64 {
	var seeds []int64
	for seed := range int64(65536) {
		number, same := seed, true
		for i := 0; i < len(shown) && same; i++ {
			same = number/256 == shown[i]
			number = (a*number + c) % 65536
		}
		if same {
			seeds = append(seeds, seed)
		}
	}
	return seeds
}

func checkSeeds(t *testing.T, a, c int64, shown []int64) {
	t.Helper()
	got, ok := impl.SeedsBehind(a, c, shown)
	expectList(t, fmt.Sprint("SeedsBehind ", a, ", ", c, " and ", shown), got, ok, slowSeeds(a, c, shown))
}

// Promise 9: the seeds behind what is seen are all seeds that show it.
func TestSeedsBehind(t *testing.T) {
	d := draws(823)
	factors := []int64{0, 1, 2, 255, 256, 257, 25173, 32768, 65534, 65535, d.below(65536), d.below(65536)}
	for _, a := range factors {
		for _, c := range []int64{0, 1, 255, 256, 13849, 65535, d.below(65536)} {
			for _, count := range []int{1, 2, 3, 5, 64} {
				seed := d.below(65536)
				shown := shownFrom(a, c, seed, count)
				checkSeeds(t, a, c, shown)
				if got, ok := impl.SeedsBehind(a, c, shown); !ok || !slices.Contains(got, seed) {
					t.Errorf("SeedsBehind %d, %d and %v: got %v and %v without %d", a, c, shown, got, ok, seed)
				}
				shown[d.below(int64(count))] = d.below(256)
				checkSeeds(t, a, c, shown)
			}
			for _, count := range []int{1, 2, 63, 64} {
				checkSeeds(t, a, c, make([]int64, count))
				checkSeeds(t, a, c, repeated[int64](255, count))
			}
		}
	}
}

func TestSeedsBehindOneNumber(t *testing.T) {
	for shown := range int64(256) {
		for _, a := range []int64{0, 25173, 65535} {
			got, ok := impl.SeedsBehind(a, 65535, []int64{shown})
			expectList(t, fmt.Sprint("SeedsBehind ", shown), got, ok, valuesFrom(256*shown, 1, 256))
		}
	}
}

func TestSeedsBehindExamples(t *testing.T) {
	got, ok := impl.SeedsBehind(256, 7, []int64{1, 0})
	expectList(t, "SeedsBehind one seed", got, ok, []int64{256})
	got, ok = impl.SeedsBehind(1, 1, []int64{1, 2})
	expectList(t, "SeedsBehind a carry", got, ok, []int64{511})
	got, ok = impl.SeedsBehind(1, 65535, []int64{0, 255})
	expectList(t, "SeedsBehind a borrow", got, ok, []int64{0})
	// With the factor 1 and nothing added, a seed shows the same for ever.
	got, ok = impl.SeedsBehind(1, 0, repeated[int64](255, 64))
	expectList(t, "SeedsBehind numbers that stay", got, ok, valuesFrom(65280, 1, 256))
	for _, shown := range [][]int64{{1, 2}, {0, 255}, append(repeated[int64](7, 63), 8)} {
		got, ok = impl.SeedsBehind(1, 0, shown)
		expectList(t, "SeedsBehind numbers that no seed shows", got, ok, nil)
	}
	got, ok = impl.SeedsBehind(0, 65535, []int64{3, 254})
	expectList(t, "SeedsBehind numbers that no seed shows", got, ok, nil)
}

func TestSeedsFail(t *testing.T) {
	for _, wrong := range []int64{-1, 65536, 65537, 1 << 32, math.MinInt64, math.MaxInt64} {
		for _, other := range []int64{0, 1, 65535, wrong} {
			got, ok := impl.SeedsBehind(wrong, other, []int64{0})
			expectNoList(t, fmt.Sprint("SeedsBehind with the factor ", wrong), got, ok)
			got, ok = impl.SeedsBehind(other, wrong, []int64{0})
			expectNoList(t, fmt.Sprint("SeedsBehind and ", wrong, " added"), got, ok)
		}
	}
	for _, shown := range [][]int64{nil, {}, make([]int64, 65), repeated[int64](255, 65), make([]int64, 1000)} {
		got, ok := impl.SeedsBehind(1, 0, shown)
		expectNoList(t, fmt.Sprint("SeedsBehind ", len(shown), " numbers"), got, ok)
	}
	for _, wrong := range []int64{-1, 256, 257, 65535, 1 << 32, math.MinInt64, math.MaxInt64} {
		for _, shown := range [][]int64{{wrong}, {wrong, 0}, {0, wrong}, {0, 1, wrong}, append(make([]int64, 63), wrong)} {
			got, ok := impl.SeedsBehind(1, 0, shown)
			expectNoList(t, fmt.Sprint("SeedsBehind ", shown), got, ok)
		}
	}
}
