package tests

import (
	"fmt"
	"math"
	"math/bits"
	"slices"
	"strings"
	"testing"

	"loop.example/g01121/impl"
)

// inputsOf returns the number of inputs of a table.
func inputsOf(table string) int { return bits.Len(uint(len(table))) - 1 }

func weightOf(n int) int { return bits.OnesCount(uint(n)) }

// tableBy returns the table of a function of some inputs.
func tableBy(inputs int, value func(x int) bool) string {
	var table strings.Builder
	for x := range 1 << inputs {
		if value(x) {
			table.WriteByte('1')
		} else {
			table.WriteByte('0')
		}
	}
	return table.String()
}

// sumTable returns the table of the sum of the inputs in a, plus added.
func sumTable(inputs, a, added int) string {
	return tableBy(inputs, func(x int) bool { return (weightOf(a&x)+added)%2 == 1 })
}

// plusOne returns the table of the function plus 1.
func plusOne(table string) string {
	return tableBy(inputsOf(table), func(x int) bool { return table[x] == '0' })
}

// allTables returns all tables of as many inputs.
func allTables(inputs int) []string {
	var list []string
	for n := range 1 << (1 << inputs) {
		list = append(list, tableBy(inputs, func(x int) bool { return n>>x&1 == 1 }))
	}
	return list
}

// plainTables returns the tables of as many inputs that are 0 or 1 everywhere,
// and those of all sums of inputs, and of these plus 1.
func plainTables(inputs int) []string {
	var list []string
	for a := range 1 << inputs {
		list = append(list, sumTable(inputs, a, 0), sumTable(inputs, a, 1))
	}
	return list
}

// oddTables returns tables with values that are hardly ever or nearly always
// 1, majorities, bent functions, and sums of some inputs and a function of the
// others, which are immune.
func oddTables(inputs int, d *draws) []string {
	all := 1<<inputs - 1
	list := []string{
		tableBy(inputs, func(x int) bool { return x == all }),
		tableBy(inputs, func(x int) bool { return x == 0 }),
		tableBy(inputs, func(x int) bool { return 2*weightOf(x) > inputs }),
		tableBy(inputs, func(x int) bool { return weightOf(x&(x>>1)&0x55)%2 == 1 }),
		tableBy(inputs, func(x int) bool { return weightOf(x)%3 == 0 }),
	}
	for range 8 {
		one, two, few := int(d.below(int64(all+1))), int(d.below(int64(all+1))), d.bits(all+1)
		a := int(d.below(int64(all + 1)))
		list = append(list,
			tableBy(inputs, func(x int) bool { return x == one || x == two }),
			tableBy(inputs, func(x int) bool { return (weightOf(x&a)+int(few[x&^a]-'0'))%2 == 1 }),
			tableBy(inputs, func(x int) bool { return weightOf(x&a)%2 == 1 && few[x] == '1' }),
			tableBy(inputs, func(x int) bool { return x&a == a && few[x] == '1' }))
	}
	for _, table := range list {
		list = append(list, plusOne(table))
	}
	return list
}

// someTables returns all tables with few inputs, and some with more.
func someTables() []string {
	list := []string{}
	for inputs := range 4 {
		list = append(list, allTables(inputs)...)
	}
	d := draws(61)
	for inputs := 4; inputs <= 6; inputs++ {
		list = append(list, plainTables(inputs)...)
		list = append(list, oddTables(inputs, &d)...)
		for range 40 {
			list = append(list, d.bits(1<<inputs))
		}
	}
	return list
}

func TestCombinerLimits(t *testing.T) {
	if impl.MaxInputs != 6 || impl.MaxAttack != 10 {
		t.Errorf("got %d and %d", impl.MaxInputs, impl.MaxAttack)
	}
}

func TestTables(t *testing.T) {
	for _, table := range someTables() {
		n, ok := impl.InputsOf(table)
		expect(t, "InputsOf "+table, n, ok, int64(inputsOf(table)))
		if !impl.IsTable(table) {
			t.Errorf("%s is no table", table)
		}
		for x := range table {
			value, ok := impl.ValueAt(table, int64(x))
			expect(t, fmt.Sprint("ValueAt ", table, " ", x), value, ok, int64(table[x]-'0'))
		}
		for _, x := range []int64{-1, int64(len(table)), 63, 64, 65, math.MinInt64, math.MaxInt64} {
			if x < 0 || x >= int64(len(table)) {
				value, ok := impl.ValueAt(table, x)
				expectFail(t, fmt.Sprint("ValueAt ", table, " ", x), value, ok)
			}
		}
	}
}

// slowForm takes from each value the sum of what the parts of x make, so that
// the rest is what x makes itself.
func slowForm(table string) string {
	form := make([]byte, len(table))
	for x := range table {
		sum := 0
		for u := range x {
			if u&x == u && form[u] == '1' {
				sum++
			}
		}
		form[x] = '0' + byte((int(table[x]-'0')+sum)%2)
	}
	return string(form)
}

func slowDegree(table string) int64 {
	degree := 0
	for u, bit := range slowForm(table) {
		if bit == '1' {
			degree = max(degree, weightOf(u))
		}
	}
	return int64(degree)
}

func TestNormalForms(t *testing.T) {
	for _, table := range someTables() {
		form, ok := impl.NormalForm(table)
		expect(t, "NormalForm "+table, form, ok, slowForm(table))
		again := tableBy(inputsOf(table), func(x int) bool {
			sum := 0
			for u := range len(form) {
				if u&^x == 0 {
					sum += int(form[u] - '0')
				}
			}
			return sum%2 == 1
		})
		if again != table {
			t.Errorf("the normal form %s makes %s, not %s", form, again, table)
		}
		degree, ok := impl.DegreeOf(table)
		expect(t, "DegreeOf "+table, degree, ok, slowDegree(table))
	}
}

// slowSpectrum counts equal and other values, as the document tells it.
func slowSpectrum(table string) []int64 {
	var spectrum []int64
	for a := range table {
		number := int64(0)
		for x := range table {
			if weightOf(a&x)%2 == int(table[x]-'0') {
				number++
			} else {
				number--
			}
		}
		spectrum = append(spectrum, number)
	}
	return spectrum
}

// Promise 5: spectra have the sum of squares that they should.
func TestSpectra(t *testing.T) {
	for _, table := range someTables() {
		spectrum, ok := impl.SpectrumOf(table)
		expectList(t, "SpectrumOf "+table, spectrum, ok, slowSpectrum(table))
		if sum := squaresOf(spectrum); sum != 1<<(2*inputsOf(table)) {
			t.Errorf("the squares of SpectrumOf %s have the sum %d", table, sum)
		}
		balance, ok := impl.BalanceOf(table)
		expect(t, "BalanceOf "+table, balance, ok, int64(strings.Count(table, "0")-strings.Count(table, "1")))
	}
}

// tellsNothing reports whether the value is 1 equally often whichever values
// the inputs in a have.
func tellsNothing(table string, a int) bool {
	counts := make([]int, len(table))
	for x := range table {
		counts[x&a] += int(table[x] - '0')
	}
	for x, count := range counts {
		if x&^a == 0 && count != counts[0] {
			return false
		}
	}
	return true
}

// immunityByFixing fixes all choices of inputs, more and more of them.
func immunityByFixing(table string) int64 {
	immunity := inputsOf(table)
	for a := range table {
		if !tellsNothing(table, a) {
			immunity = min(immunity, weightOf(a)-1)
		}
	}
	return int64(immunity)
}

// Promise 5: immunity is what fixed inputs show.
func TestImmunities(t *testing.T) {
	found := map[int64]bool{}
	for _, table := range someTables() {
		want := immunityByFixing(table)
		got, ok := impl.ImmunityOf(table)
		expect(t, "ImmunityOf "+table, got, ok, want)
		degree, _ := impl.DegreeOf(table)
		if n := int64(inputsOf(table)); n == 6 {
			found[want] = true
			if want < n && want+degree > n {
				t.Errorf("%s has the immunity %d and the degree %d", table, got, degree)
			}
		}
	}
	if len(found) < 6 {
		t.Errorf("only the immunities %v are tested", found)
	}
}

// slowNearest compares all sums of inputs with the table, and returns the
// first one that is as near as any, and how many values differ.
func slowNearest(table string) (a, added, far int64) {
	far = math.MaxInt64
	for i, sum := range plainTables(inputsOf(table)) {
		differ := int64(0)
		for x := range table {
			if table[x] != sum[x] {
				differ++
			}
		}
		if differ < far {
			a, added, far = int64(i/2), int64(i%2), differ
		}
	}
	return a, added, far
}

func TestNearestSums(t *testing.T) {
	for _, table := range someTables() {
		wantA, wantAdded, wantFar := slowNearest(table)
		a, added, ok := impl.NearestSum(table)
		expect(t, "NearestSum "+table, [2]int64{a, added}, ok, [2]int64{wantA, wantAdded})
		far, ok := impl.NonlinearityOf(table)
		expect(t, "NonlinearityOf "+table, far, ok, wantFar)
	}
	// The sums themselves, and bent functions, which are as far as any.
	for inputs := range 7 {
		for i, table := range plainTables(inputs) {
			a, added, ok := impl.NearestSum(table)
			expect(t, "NearestSum "+table, [2]int64{a, added}, ok, [2]int64{int64(i / 2), int64(i % 2)})
		}
	}
	for inputs, want := range map[int]int64{2: 1, 4: 6, 6: 28} {
		bent := tableBy(inputs, func(x int) bool { return weightOf(x&(x>>1)&0x55)%2 == 1 })
		far, ok := impl.NonlinearityOf(bent)
		expect(t, "NonlinearityOf "+bent, far, ok, want)
	}
}

func TestShifts(t *testing.T) {
	for _, table := range someTables() {
		var want, wantFixed []int64
		for a := range table {
			equal := 0
			for x := range table {
				if table[x] == table[x^a] {
					equal++
				}
			}
			want = append(want, int64(2*equal-len(table)))
			if equal == 0 || equal == len(table) {
				wantFixed = append(wantFixed, int64(a))
			}
		}
		shifts, ok := impl.ShiftsOf(table)
		expectList(t, "ShiftsOf "+table, shifts, ok, want)
		fixed, ok := impl.FixedShifts(table)
		expectList(t, "FixedShifts "+table, fixed, ok, wantFixed)
	}
}

// degreesOfAll returns the degrees of all functions of few inputs, each at the
// index whose bit x is the value at x.
func degreesOfAll(inputs int) []int64 {
	var degrees []int64
	for _, table := range allTables(inputs) {
		degrees = append(degrees, slowDegree(table))
	}
	return degrees
}

// numberOf returns the index that a table has in degreesOfAll.
func numberOf(table string) int {
	n := 0
	for x := range table {
		n += int(table[x]-'0') << x
	}
	return n
}

// leastByTrying returns the least degree of a function that is not always 0,
// but is 0 wherever table is 1, of all functions with the given degrees.
func leastByTrying(table string, degrees []int64) int64 {
	least, f := int64(math.MaxInt64), numberOf(table)
	for g := 1; g < len(degrees); g++ {
		if f&g == 0 {
			least = min(least, degrees[g])
		}
	}
	return least
}

func TestAnnihilatorsOfAllFunctions(t *testing.T) {
	fromPlusOne := 0
	for inputs := range 5 {
		degrees := degreesOfAll(inputs)
		for _, table := range someTables() {
			if inputsOf(table) != inputs {
				continue
			}
			own, other := leastByTrying(table, degrees), leastByTrying(plusOne(table), degrees)
			if other < own {
				fromPlusOne++
			}
			got, ok := impl.AnnihilatorDegree(table)
			expect(t, "AnnihilatorDegree "+table, got, ok, min(own, other))
		}
	}
	if fromPlusOne < 50 {
		t.Errorf("only %d functions have their least annihilator from the function plus 1", fromPlusOne)
	}
}

// hasAnnihilator solves the equations that a function of a degree is 0 wherever
// table is 1: there is one that is not always 0 if the equations that are left
// are fewer than the products of inputs.
func hasAnnihilator(table string, degree int) bool {
	var products []int
	for u := range table {
		if weightOf(u) <= degree {
			products = append(products, u)
		}
	}
	var rows []uint64
	for x := range table {
		if table[x] == '1' {
			row := uint64(0)
			for i, u := range products {
				if u&^x == 0 {
					row |= 1 << i
				}
			}
			rows = append(rows, row)
		}
	}
	rank := 0
	for column := range products {
		pivot := slices.IndexFunc(rows[rank:], func(row uint64) bool { return row>>column&1 == 1 })
		if pivot < 0 {
			continue
		}
		rows[rank], rows[rank+pivot] = rows[rank+pivot], rows[rank]
		for i := range rows {
			if i != rank && rows[i]>>column&1 == 1 {
				rows[i] ^= rows[rank]
			}
		}
		rank++
	}
	return rank < len(products)
}

func TestAnnihilatorsByEquations(t *testing.T) {
	for _, table := range someTables() {
		want := 0
		for !hasAnnihilator(table, want) && !hasAnnihilator(plusOne(table), want) {
			want++
		}
		got, ok := impl.AnnihilatorDegree(table)
		expect(t, "AnnihilatorDegree "+table, got, ok, int64(want))
	}
	for inputs := range 7 { // majorities have the greatest degree that there is
		majority := tableBy(inputs, func(x int) bool { return 2*weightOf(x) > inputs })
		got, ok := impl.AnnihilatorDegree(majority)
		expect(t, "AnnihilatorDegree of a majority", got, ok, int64(inputs+1)/2)
	}
}

// An input plus 1 is 0 wherever all inputs are 1, and it does not matter
// whether this is where the function is 1, or where the function plus 1 is.
func TestAnnihilatorOfPlusOne(t *testing.T) {
	for inputs := 1; inputs <= 6; inputs++ {
		all := tableBy(inputs, func(x int) bool { return x == 1<<inputs-1 })
		for _, table := range []string{all, plusOne(all)} {
			got, ok := impl.AnnihilatorDegree(table)
			expect(t, "AnnihilatorDegree "+table, got, ok, 1)
		}
	}
}

// expectNumbers requires the results of all functions that return one number.
func expectNumbers(t *testing.T, table string, degree, balance, immunity, far, annihilator int64) {
	t.Helper()
	got, ok := impl.DegreeOf(table)
	expect(t, "DegreeOf "+table, got, ok, degree)
	got, ok = impl.BalanceOf(table)
	expect(t, "BalanceOf "+table, got, ok, balance)
	got, ok = impl.ImmunityOf(table)
	expect(t, "ImmunityOf "+table, got, ok, immunity)
	got, ok = impl.NonlinearityOf(table)
	expect(t, "NonlinearityOf "+table, got, ok, far)
	got, ok = impl.AnnihilatorDegree(table)
	expect(t, "AnnihilatorDegree "+table, got, ok, annihilator)
}

func TestFunctionExamples(t *testing.T) {
	majority := "00010111"
	form, ok := impl.NormalForm(majority)
	expect(t, "NormalForm of the example", form, ok, "00010110")
	spectrum, ok := impl.SpectrumOf(majority)
	expectList(t, "SpectrumOf the example", spectrum, ok, []int64{0, 4, 4, 0, 4, 0, 0, -4})
	expectNumbers(t, majority, 2, 0, 0, 2, 2)
	expectNumbers(t, "0110", 1, 0, 1, 0, 1)
	for inputs := range 7 {
		size, n := 1<<inputs, int64(inputs)
		expectNumbers(t, strings.Repeat("0", size), 0, int64(size), n, 0, 0)
		expectNumbers(t, strings.Repeat("1", size), 0, int64(-size), n, 0, 0)
		if inputs > 0 {
			expectNumbers(t, sumTable(inputs, size-1, 0), 1, 0, n-1, 0, 1)
			expectNumbers(t, sumTable(inputs, size-1, 1), 1, 0, n-1, 0, 1)
		}
	}
}

// Tables without inputs.
func TestNoInputs(t *testing.T) {
	for value, table := range []string{"0", "1"} {
		form, ok := impl.NormalForm(table)
		expect(t, "NormalForm "+table, form, ok, table)
		spectrum, ok := impl.SpectrumOf(table)
		expectList(t, "SpectrumOf "+table, spectrum, ok, []int64{int64(1 - 2*value)})
		a, added, ok := impl.NearestSum(table)
		expect(t, "NearestSum "+table, [2]int64{a, added}, ok, [2]int64{0, int64(value)})
		shifts, ok := impl.ShiftsOf(table)
		expectList(t, "ShiftsOf "+table, shifts, ok, []int64{1})
		fixed, ok := impl.FixedShifts(table)
		expectList(t, "FixedShifts "+table, fixed, ok, []int64{0})
	}
}

// wrongTables returns texts that are no tables.
func wrongTables() []string {
	list := []string{"", "2", "a", " ", "\xff", "é", "0a", "01\n", "01 0", "001", "0110 110", "è00", "011010011001011O", strings.Repeat("1", 63) + "2"}
	for length := range 131 {
		if length == 0 || length > 64 || length&(length-1) != 0 {
			list = append(list, strings.Repeat("1", length))
		}
	}
	return append(list, strings.Repeat("0", 256), strings.Repeat("0", 400), strings.Repeat("0", 512))
}

func TestFunctionsFail(t *testing.T) {
	numbers := map[string]func(string) (int64, bool){
		"InputsOf": impl.InputsOf, "DegreeOf": impl.DegreeOf, "BalanceOf": impl.BalanceOf, "ImmunityOf": impl.ImmunityOf,
		"NonlinearityOf": impl.NonlinearityOf, "AnnihilatorDegree": impl.AnnihilatorDegree,
		"ValueAt": func(table string) (int64, bool) { return impl.ValueAt(table, 0) },
	}
	lists := map[string]func(string) ([]int64, bool){
		"SpectrumOf": impl.SpectrumOf, "ShiftsOf": impl.ShiftsOf, "FixedShifts": impl.FixedShifts,
	}
	for _, table := range wrongTables() {
		if impl.IsTable(table) {
			t.Errorf("%q is a table", table)
		}
		for name, function := range numbers {
			got, ok := function(table)
			expectFail(t, fmt.Sprintf("%s %q", name, table), got, ok)
		}
		for name, function := range lists {
			got, ok := function(table)
			expectNoList(t, fmt.Sprintf("%s %q", name, table), got, ok)
		}
		form, ok := impl.NormalForm(table)
		expectFail(t, fmt.Sprintf("NormalForm %q", table), form, ok)
		a, added, ok := impl.NearestSum(table)
		expectFail(t, fmt.Sprintf("NearestSum %q", table), [2]int64{a, added}, ok)
	}
}
