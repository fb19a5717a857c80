package tests

import (
	"fmt"
	"math"
	"slices"
	"strconv"
	"strings"
	"testing"

	"loop.example/g01121/impl"
)

func circles() []string {
	d := draws(51)
	list := []string{"0", "1", "01", "0101", "1001011", strings.Repeat("1", 400), strings.Repeat("01", 200), "1" + strings.Repeat("0", 399)}
	for length := 1; length <= 40; length++ {
		list = append(list, d.bits(length))
	}
	return append(list, d.bits(64), d.bits(399), d.bits(400))
}

func TestAgreements(t *testing.T) {
	for _, text := range circles() {
		n := len(text)
		var want []int64
		for shift := range n {
			count := int64(0)
			for i := range n {
				if text[i] == text[(i+shift)%n] {
					count++
				}
			}
			want = append(want, count-(int64(n)-count))
		}
		got, ok := impl.AgreementsOf(text)
		expectList(t, "AgreementsOf "+text, got, ok, want)
	}
}

func TestTakeEvery(t *testing.T) {
	for _, text := range circles() {
		for _, step := range []int{1, 2, 3, 7, len(text), len(text) + 1, 399, 400} {
			want, at := "", 0
			if step > impl.MaxBits {
				continue
			}
			for range text {
				want += text[at : at+1]
				for range step {
					at++
					if at == len(text) {
						at = 0
					}
				}
			}
			got, ok := impl.TakeEvery(text, int64(step))
			expect(t, fmt.Sprint("TakeEvery ", step, " of ", text), got, ok, want)
		}
	}
	got, ok := impl.TakeEvery("1001011", 2)
	expect(t, "TakeEvery 2 of 1001011", got, ok, "1001011")
	got, ok = impl.TakeEvery("1001011", 3)
	expect(t, "TakeEvery 3 of 1001011", got, ok, "1110100")
}

func TestCirclesFail(t *testing.T) {
	for _, text := range []string{"", strings.Repeat("0", 401), "2", "01a", " 1", "\xff"} {
		list, ok := impl.AgreementsOf(text)
		expectNoList(t, "AgreementsOf "+text, list, ok)
		taken, ok := impl.TakeEvery(text, 1)
		expectFail(t, "TakeEvery of "+text, taken, ok)
	}
	for _, step := range []int64{0, -1, 401, math.MinInt64, math.MaxInt64} {
		for _, text := range []string{"1", "1001011", strings.Repeat("1", 400)} {
			taken, ok := impl.TakeEvery(text, step)
			expectFail(t, "TakeEvery with a wrong step", taken, ok)
		}
	}
}

// slowTableCycles follows each state for as many steps as there are states,
// and then counts each cycle at its least state.
func slowTableCycles(width int, table string) []int64 {
	next := func(state int64) int64 {
		if width == 0 {
			return 0
		}
		text := fmt.Sprintf("%c%0*b", table[state], width, state)
		n, _ := strconv.ParseInt(text[:width], 2, 64)
		return n
	}
	var lengths []int64
	for start := range int64(len(table)) {
		before, length := slowCycle(next, start)
		least := start
		for at, step := start, int64(0); step < length; step++ {
			least = min(least, at)
			at = next(at)
		}
		if before == 0 && least == start {
			lengths = append(lengths, length)
		}
	}
	slices.Sort(lengths)
	return lengths
}

func TestTableCycles(t *testing.T) {
	var tables [7][]string
	for width := range 4 {
		for n := range 1 << (1 << width) {
			tables[width] = append(tables[width], fmt.Sprintf("%0*b", 1<<width, n))
		}
	}
	d := draws(52)
	for width := 4; width <= 6; width++ {
		size := 1 << width
		tables[width] = append(tables[width], strings.Repeat("0", size), strings.Repeat("1", size), strings.Repeat("01", size/2), strings.Repeat("10", size/2))
		for range 100 {
			tables[width] = append(tables[width], d.bits(size))
		}
		for range 20 { // tables that give each state just one state before it
			half := d.bits(size / 2)
			pairs := ""
			for _, bit := range half {
				pairs += map[rune]string{'0': "01", '1': "10"}[bit]
			}
			tables[width] = append(tables[width], pairs)
		}
	}
	for width, list := range tables {
		for _, table := range list {
			got, ok := impl.TableCycles(int64(width), table)
			expectList(t, fmt.Sprint("TableCycles ", width, " ", table), got, ok, slowTableCycles(width, table))
		}
	}
	for _, table := range []string{"0", "1"} {
		got, ok := impl.TableCycles(0, table)
		expectList(t, "TableCycles with the width 0", got, ok, []int64{1})
	}
}

// A register with the table of a linear one goes where that one goes.
func TestTableOfRegister(t *testing.T) {
	for _, r := range smallRegisters(6) {
		table, counts := "", map[int64]int64{}
		for state := range int64(1) << r.Width {
			bit, _ := impl.ParityOf(r.Taps, state)
			table += strconv.FormatInt(bit, 10)
			if before, length, _ := impl.RegisterCycle(r, state); before == 0 {
				counts[length]++
			}
		}
		lengths, ok := impl.TableCycles(r.Width, table)
		if !ok || !slices.IsSorted(lengths) {
			t.Errorf("TableCycles of %v: got %v and %v", r, lengths, ok)
		}
		for _, length := range lengths {
			counts[length] -= length
		}
		for length, count := range counts {
			if count != 0 {
				t.Errorf("TableCycles of %v: got %v, the number of states with the length %d is wrong", r, lengths, length)
			}
		}
	}
}

func TestTablesFail(t *testing.T) {
	for width := int64(-2); width <= 10; width++ {
		for _, length := range []int{0, 1, 2, 3, 4, 8, 15, 16, 17, 32, 63, 64, 65, 128, 256} {
			list, ok := impl.TableCycles(width, strings.Repeat("0", length))
			if valid := 0 <= width && width <= 6 && length == 1<<width; valid {
				expectList(t, "TableCycles of zeros", list, ok, []int64{1})
			} else {
				expectNoList(t, fmt.Sprint("TableCycles ", width, " of ", length, " zeros"), list, ok)
			}
		}
	}
	for _, width := range []int64{math.MinInt64, 63, 64, 65, math.MaxInt64} {
		list, ok := impl.TableCycles(width, "0")
		expectNoList(t, "TableCycles with a wrong width", list, ok)
	}
	for _, table := range []string{"0012", "00a1", "é00", "\xff000"} {
		list, ok := impl.TableCycles(2, table)
		expectNoList(t, "TableCycles of a wrong table", list, ok)
	}
}

// haveAllWords searches for each word in the circle, written down twice.
func haveAllWords(width int, text string) bool {
	if len(text) != 1<<width {
		return false
	}
	for n := range 1 << width {
		word, count := fmt.Sprintf("%0*b", width, n), 0
		for i := range text {
			if strings.HasPrefix((text + text)[i:], word) {
				count++
			}
		}
		if count != 1 {
			return false
		}
	}
	return true
}

// leastByNecklaces joins the words that are less than all their rotations and
// whose length divides the width, the lesser ones first (the theorem of
// Fredricksen and Maiorana).
func leastByNecklaces(width int) string {
	var words []string
	for length := 1; length <= width; length++ {
		for n := range 1 << length {
			word := fmt.Sprintf("%0*b", length, n)
			least := width%length == 0
			for i := 1; i < length; i++ {
				least = least && word < word[i:]+word[:i]
			}
			if least {
				words = append(words, word)
			}
		}
	}
	slices.Sort(words)
	return strings.Join(words, "")
}

func TestAllWords(t *testing.T) {
	for width := 1; width <= 4; width++ {
		first, size := "", 1<<width
		for n := range 1 << size {
			text := fmt.Sprintf("%0*b", size, n)
			want := haveAllWords(width, text)
			if got := impl.IsAllWords(int64(width), text); got != want {
				t.Fatalf("IsAllWords %d %s is %v", width, text, got)
			}
			if want && first == "" {
				first = text
			}
		}
		got, ok := impl.LeastAllWords(int64(width))
		expect(t, fmt.Sprint("LeastAllWords ", width), got, ok, first)
	}
}

func TestLeastAllWords(t *testing.T) {
	for width := 1; width <= 6; width++ {
		got, ok := impl.LeastAllWords(int64(width))
		expect(t, fmt.Sprint("LeastAllWords ", width), got, ok, leastByNecklaces(width))
		if !haveAllWords(width, got) {
			t.Errorf("%s does not have all words of the width %d", got, width)
		}
		for i := range got {
			if !impl.IsAllWords(int64(width), got[i:]+got[:i]) {
				t.Errorf("IsAllWords is false for the bits %s from %d on", got, i)
			}
			wrong := []byte(got)
			wrong[i] ^= 1
			if impl.IsAllWords(int64(width), string(wrong)) {
				t.Errorf("IsAllWords is true for %s", wrong)
			}
		}
	}
}

func TestAllWordsFail(t *testing.T) {
	for _, width := range []int64{0, -1, 7, 8, 63, 64, 65, math.MinInt64, math.MaxInt64} {
		least, ok := impl.LeastAllWords(width)
		expectFail(t, fmt.Sprint("LeastAllWords ", width), least, ok)
		for _, text := range []string{"", "0", "1", "01", "0011", leastByNecklaces(6), leastByNecklaces(7), leastByNecklaces(8)} {
			if impl.IsAllWords(width, text) {
				t.Errorf("IsAllWords %d %s is true", width, text)
			}
		}
	}
	for _, text := range []string{"", "0", "0012", "001", "00110", "00110011", "00a1", "0101"} {
		if impl.IsAllWords(2, text) {
			t.Errorf("IsAllWords 2 %s is true", text)
		}
	}
}
