package tests

import (
	"math"
	"math/big"
	"slices"
	"strconv"
	"strings"
	"testing"

	"loop.example/g01121/impl"
)

const (
	maxPart  = int64(impl.MaxPart)
	maxValue = int64(impl.MaxValue)
)

// draws returns the same numbers in each run of the tests.
type draws uint64

func (d *draws) next() uint64 {
	*d = *d*6364136223846793005 + 1442695040888963407
	x := uint64(*d)
	return (x ^ x>>29) * 0xbf58476d1ce4e5b9 >> 1
}

func (d *draws) below(n int64) int64 { return int64(d.next() % uint64(n)) }

func (d *draws) bits(count int) string {
	var text strings.Builder
	for range count {
		text.WriteByte("01"[d.below(2)])
	}
	return text.String()
}

func expect[T comparable](t *testing.T, what string, got T, ok bool, want T) {
	t.Helper()
	if !ok || got != want {
		t.Errorf("%s: got %v and %v, want %v", what, got, ok, want)
	}
}

func expectFail[T comparable](t *testing.T, what string, got T, ok bool) {
	t.Helper()
	var zero T
	if ok || got != zero {
		t.Errorf("%s: got %v and %v, want it to fail", what, got, ok)
	}
}

func expectList(t *testing.T, what string, got []int64, ok bool, want []int64) {
	t.Helper()
	if !ok || !slices.Equal(got, want) {
		t.Errorf("%s: got %v and %v, want %v", what, got, ok, want)
	}
}

func expectNoList(t *testing.T, what string, got []int64, ok bool) {
	t.Helper()
	if ok || len(got) != 0 {
		t.Errorf("%s: got %v and %v, want it to fail", what, got, ok)
	}
}

func TestLimits(t *testing.T) {
	got := []int64{impl.MaxBits, impl.MaxDigits, impl.MaxValue, impl.MaxPart, impl.MaxItems, impl.MaxChoose, impl.CheckStep, impl.CheckSize}
	want := []int64{400, 60, 1000000000000000, 1000000000000000000, 64, 60, 4099, 999983}
	if !slices.Equal(got, want) {
		t.Errorf("got %v, want %v", got, want)
	}
}

func TestNames(t *testing.T) {
	for _, s := range []string{"a", "z", "coin", "abcdefghij", "zzzzzzzzzz"} {
		if !impl.IsName(s) {
			t.Errorf("%q is no name", s)
		}
	}
	for _, s := range []string{"", "abcdefghijk", "A", "aB", "a1", "a b", " a", "a ", "`", "{", "é", "aé", "\xff", "a\xff", "\x00", "a\n"} {
		if impl.IsName(s) {
			t.Errorf("%q is a name", s)
		}
	}
}

func TestDecimals(t *testing.T) {
	for _, n := range numberPool() {
		text := impl.Decimal(n)
		if text != strconv.FormatInt(n, 10) {
			t.Errorf("Decimal of %d is %q", n, text)
		}
		got, ok := impl.ReadDecimal(text)
		if -maxValue <= n && n <= maxValue {
			expect(t, text, got, ok, n)
		} else {
			expectFail(t, text, got, ok)
		}
	}
	for n, want := range map[int64]string{0: "0", -7: "-7", 10: "10", math.MinInt64: "-9223372036854775808", math.MaxInt64: "9223372036854775807"} {
		if got := impl.Decimal(n); got != want {
			t.Errorf("Decimal of %d is %q", n, got)
		}
	}
	for _, s := range []string{"", "-", "+", "+1", "-0", "+0", "00", "01", "-01", " 1", "1 ", "1\n", "\t1", "--1", "1-", "1_0", "0x1", "1e3", "1.0", "a", "\xff", "\x001", "١", "9223372036854775808", "-9223372036854775809", "10000000000000000000000"} {
		got, ok := impl.ReadDecimal(s)
		expectFail(t, strconv.Quote(s), got, ok)
	}
}

func TestBitsAreFew(t *testing.T) {
	for _, s := range []string{"", "0", "1", "0101", strings.Repeat("1", 400), strings.Repeat("0", 399)} {
		if !impl.IsBits(s) {
			t.Errorf("%q are no bits", s)
		}
	}
	for _, s := range []string{"2", "/", " ", "01a", "0 1", "1\n", "\xff", "0\x00", "１", strings.Repeat("1", 401), strings.Repeat("0", 399) + "2"} {
		if impl.IsBits(s) {
			t.Errorf("%q are bits", s)
		}
		ones, ok := impl.OnesOf(s)
		expectFail(t, "OnesOf "+s, ones, ok)
		runs, ok := impl.RunLengths(s)
		expectNoList(t, "RunLengths "+s, runs, ok)
		n, ok := impl.NumberOfBits(s)
		expectFail(t, "NumberOfBits "+s, n, ok)
		for _, other := range []string{s, strings.Repeat("0", len(s))} {
			x, ok := impl.XorBits(s, other)
			expectFail(t, "XorBits "+s, x, ok)
			x, ok = impl.XorBits(other, s)
			expectFail(t, "XorBits behind "+s, x, ok)
		}
	}
}

func checkBits(t *testing.T, a, b string) {
	t.Helper()
	ones, differ := int64(0), ""
	for i := range a {
		ones += int64(a[i] - '0')
		if a[i] == b[i] {
			differ += "0"
		} else {
			differ += "1"
		}
	}
	got, ok := impl.OnesOf(a)
	expect(t, "OnesOf "+a, got, ok, ones)
	x, ok := impl.XorBits(a, b)
	expect(t, "XorBits of "+a+" and "+b, x, ok, differ)
	runs, ok := impl.RunLengths(a)
	again := ""
	for i, n := range runs {
		if n < 1 {
			t.Fatalf("RunLengths %s: %v", a, runs)
		}
		bit := int(a[0]-'0') ^ i%2
		again += strings.Repeat(strconv.Itoa(bit), int(n))
	}
	expect(t, "runs of "+a, again, ok, a)
}

func TestBits(t *testing.T) {
	d := draws(1)
	for count := range 41 {
		checkBits(t, d.bits(count), d.bits(count))
	}
	for _, count := range []int{64, 65, 399, 400} {
		checkBits(t, d.bits(count), d.bits(count))
		checkBits(t, strings.Repeat("1", count), strings.Repeat("0", count))
		checkBits(t, strings.Repeat("01", 200)[:count], strings.Repeat("10", 200)[:count])
	}
	for _, lengths := range [][2]int{{0, 1}, {1, 0}, {3, 4}, {400, 399}, {400, 401}} {
		x, ok := impl.XorBits(strings.Repeat("1", lengths[0]), strings.Repeat("1", lengths[1]))
		expectFail(t, "XorBits of other lengths", x, ok)
	}
	runs, ok := impl.RunLengths("0101")
	expectList(t, "RunLengths 0101", runs, ok, []int64{1, 1, 1, 1})
	runs, ok = impl.RunLengths("")
	expectList(t, "RunLengths of nothing", runs, ok, nil)
	runs, ok = impl.RunLengths(strings.Repeat("1", 400))
	expectList(t, "RunLengths of one run", runs, ok, []int64{400})
}

func TestBitsOfNumbers(t *testing.T) {
	d := draws(2)
	for width := range int64(impl.MaxDigits + 1) {
		end := int64(1) << width
		for _, n := range []int64{0, end / 2, end - 1, d.below(end), d.below(end)} {
			want := ""
			if width > 0 {
				want = strconv.FormatInt(n, 2)
				want = strings.Repeat("0", int(width)-len(want)) + want
			}
			got, ok := impl.BitsOf(n, width)
			expect(t, "BitsOf", got, ok, want)
			back, ok := impl.NumberOfBits(got)
			expect(t, "NumberOfBits "+got, back, ok, n)
		}
		for _, n := range []int64{-1, end, end + 1, math.MinInt64, math.MaxInt64} {
			got, ok := impl.BitsOf(n, width)
			expectFail(t, "BitsOf too great a number", got, ok)
		}
	}
	for _, width := range []int64{-1, 61, 62, 63, 64, 65, 400, math.MinInt64, math.MaxInt64} {
		for _, n := range []int64{0, 1, -1} {
			got, ok := impl.BitsOf(n, width)
			expectFail(t, "BitsOf with a wrong width", got, ok)
		}
	}
	n, ok := impl.NumberOfBits(strings.Repeat("1", 60))
	expect(t, "NumberOfBits of 60 bits", n, ok, 1<<60-1)
	n, ok = impl.NumberOfBits(strings.Repeat("0", 61))
	expectFail(t, "NumberOfBits of 61 bits", n, ok)
}

func TestParities(t *testing.T) {
	pool := []int64{0, 1, 2, 3, 5, 6, 7, 8, 255, 1 << 40, 1 << 62, 1<<62 + 1, math.MaxInt64 - 1, math.MaxInt64}
	for _, n := range pool {
		for _, mask := range pool {
			want := int64(0)
			for i := range 63 {
				want ^= n >> i & 1 & (mask >> i)
			}
			got, ok := impl.ParityOf(n, mask)
			expect(t, "ParityOf", got, ok, want)
		}
	}
	for _, pair := range [][2]int64{{-1, 1}, {1, -1}, {-1, -1}, {math.MinInt64, 0}, {0, math.MinInt64}} {
		got, ok := impl.ParityOf(pair[0], pair[1])
		expectFail(t, "ParityOf a negative number", got, ok)
	}
}

func TestBinomials(t *testing.T) {
	for n := range int64(impl.MaxChoose + 1) {
		for k := range n + 1 {
			got, ok := impl.BinomialOf(n, k)
			expect(t, "BinomialOf", got, ok, new(big.Int).Binomial(n, k).Int64())
		}
		for _, k := range []int64{-1, n + 1, math.MinInt64, math.MaxInt64} {
			got, ok := impl.BinomialOf(n, k)
			expectFail(t, "BinomialOf with a wrong k", got, ok)
		}
	}
	for _, n := range []int64{-1, 61, math.MinInt64, math.MaxInt64} {
		for _, k := range []int64{-1, 0, 1, n} {
			got, ok := impl.BinomialOf(n, k)
			expectFail(t, "BinomialOf with a wrong n", got, ok)
		}
	}
}

func TestLists(t *testing.T) {
	good := map[string][]int64{
		"none": nil, "0": {0}, "1,-2": {1, -2}, "-5": {-5}, "3,3,0": {3, 3, 0},
		"1000000000000000,-1000000000000000": {maxValue, -maxValue},
		strings.Repeat("7,", 63) + "7":       slices.Repeat([]int64{7}, 64),
		strings.Repeat("-12,", 62) + "9":     append(slices.Repeat([]int64{-12}, 62), 9),
	}
	for text, list := range good {
		got, ok := impl.ListText(list)
		expect(t, text, got, ok, text)
		back, ok := impl.ReadList(text)
		expectList(t, text, back, ok, list)
	}
	text, ok := impl.ListText([]int64{})
	expect(t, "the empty list", text, ok, "none")
	for _, s := range []string{"", ",", "1,", ",1", "1,,2", "1, 2", " 1", "1,2\n", "None", "none,", "none,1", "1,none", "nonenone", "1;2", "+1", "01", "-0", "1,-0", "1,02", "a", "1000000000000001", "0,-1000000000000001", "9223372036854775808", strings.Repeat("7,", 64) + "7", strings.Repeat("7,", 64), strings.Repeat("7,", 63)} {
		list, ok := impl.ReadList(s)
		expectNoList(t, strconv.Quote(s), list, ok)
	}
	for _, list := range [][]int64{{maxValue + 1}, {0, -maxValue - 1}, {math.MinInt64}, {1, math.MaxInt64, 1}, make([]int64, 65)} {
		text, ok := impl.ListText(list)
		expectFail(t, "ListText", text, ok)
	}
}

func TestCheckNumbers(t *testing.T) {
	all := ""
	for b := range 256 {
		all += string([]byte{byte(b)})
	}
	texts := []string{"", "a", "coin", "\xff", "\x00", "é", all, strings.Repeat(all, 40)}
	for _, start := range []int64{0, 1, 98, 500000, impl.CheckSize - 1} {
		for _, s := range texts {
			want := big.NewInt(start)
			for _, b := range []byte(s) {
				want.Mul(want, big.NewInt(4099))
				want.Add(want, big.NewInt(int64(b)+1))
				want.Mod(want, big.NewInt(999983))
			}
			got, ok := impl.CheckOf(start, s)
			expect(t, "CheckOf "+strconv.Quote(s), got, ok, want.Int64())
			half, _ := impl.CheckOf(start, s[:len(s)/2])
			whole, ok := impl.CheckOf(half, s[len(s)/2:])
			expect(t, "CheckOf two halves", whole, ok, got)
		}
	}
	got, ok := impl.CheckOf(0, "a")
	expect(t, "CheckOf a", got, ok, 98)
	for _, start := range []int64{-1, impl.CheckSize, impl.CheckSize + 1, math.MinInt64, math.MaxInt64} {
		for _, s := range []string{"", "a"} {
			got, ok := impl.CheckOf(start, s)
			expectFail(t, "CheckOf", got, ok)
		}
	}
}
