package impl

import (
	"cmp"
	"math/bits"
	"strconv"
	"strings"
)

// Limits of chapter 1.
const (
	MaxBits   = 400
	MaxDigits = 60
	MaxValue  = 1000000000000000
	MaxPart   = 1000000000000000000
	MaxItems  = 64
	MaxChoose = 60
	CheckStep = 4099
	CheckSize = 999983
)

const (
	maxName  = 10
	noneText = "none"
)

// Fraction is the number Num / Den.
type Fraction struct {
	Num int64
	Den int64
}

// IsName reports whether s is a name.
func IsName(s string) bool {
	return isBetween(len(s), 1, maxName) && hasOnly(s, 'a', 'z')
}

// Decimal returns n in decimal.
func Decimal(n int64) string { return strconv.FormatInt(n, 10) }

// ReadDecimal returns the number with the given decimal text.
func ReadDecimal(s string) (int64, bool) {
	n, ok := readWhole(s)
	if !ok || !isValue(n) {
		return 0, false
	}
	return n, true
}

// IsBits reports whether s has few bits.
func IsBits(s string) bool {
	return len(s) <= MaxBits && hasOnly(s, '0', '1')
}

// OnesOf returns how many bits are 1.
func OnesOf(s string) (int64, bool) {
	if !IsBits(s) {
		return 0, false
	}
	return int64(strings.Count(s, "1")), true
}

// XorBits returns where bits differ.
func XorBits(a, b string) (string, bool) {
	if len(a) != len(b) || !IsBits(a) || !IsBits(b) {
		return "", false
	}
	differ := make([]byte, len(a))
	for i := range differ {
		differ[i] = '0' + (a[i] ^ b[i])
	}
	return string(differ), true
}

// RunLengths returns the lengths of the runs.
func RunLengths(s string) ([]int64, bool) {
	if !IsBits(s) {
		return nil, false
	}
	lengths := []int64{}
	for i := range len(s) {
		if i == 0 || s[i] != s[i-1] {
			lengths = append(lengths, 0)
		}
		lengths[len(lengths)-1]++
	}
	return lengths, true
}

// BitsOf returns the bits of a number.
func BitsOf(n, width int64) (string, bool) {
	if !isBetween(width, 0, MaxDigits) || !isBetween(n, 0, ones(width)) {
		return "", false
	}
	digits := make([]byte, width)
	for i := range width {
		digits[width-1-i] = '0' + byte(n>>i&1)
	}
	return string(digits), true
}

// NumberOfBits returns the number of bits.
func NumberOfBits(s string) (int64, bool) {
	if len(s) > MaxDigits || !IsBits(s) {
		return 0, false
	}
	n := int64(0)
	for i := range len(s) {
		n = 2*n + int64(s[i]-'0')
	}
	return n, true
}

// ParityOf returns the parity of some bits of a number.
func ParityOf(n, mask int64) (int64, bool) {
	if n < 0 || mask < 0 {
		return 0, false
	}
	return parity(n & mask), true
}

// ValidFraction reports whether f is valid.
func ValidFraction(f Fraction) bool {
	return f.Den > 0 && isPart(f.Den) && isPart(f.Num) && commonDivisor(f.Num, f.Den) == 1
}

// MakeFraction returns n / d in lowest terms.
func MakeFraction(n, d int64) (Fraction, bool) {
	if d == 0 || !isPart(n) || !isPart(d) {
		return Fraction{}, false
	}
	divisor := commonDivisor(n, d)
	if d < 0 {
		divisor = -divisor
	}
	return Fraction{n / divisor, d / divisor}, true
}

// AddFractions returns f + g.
func AddFractions(f, g Fraction) (Fraction, bool) {
	if !ValidFraction(f) || !ValidFraction(g) {
		return Fraction{}, false
	}
	shared := commonDivisor(f.Den, g.Den)
	sum := multiply(f.Num, g.Den/shared).plus(multiply(g.Num, f.Den/shared))
	// A prime that divides the sum and just one of the two quotients of
	// denominators would divide a numerator and its own denominator, so
	// that only divisors of shared are left to be removed.
	common := commonDivisor(sum.remainder(shared), shared)
	return fractionOf(sum.over(common), multiply(f.Den/shared, g.Den/common))
}

// SubFractions returns f - g.
func SubFractions(f, g Fraction) (Fraction, bool) {
	if !ValidFraction(g) {
		return Fraction{}, false
	}
	return AddFractions(f, Fraction{-g.Num, g.Den})
}

// MulFractions returns f times g.
func MulFractions(f, g Fraction) (Fraction, bool) {
	if !ValidFraction(f) || !ValidFraction(g) {
		return Fraction{}, false
	}
	first := commonDivisor(f.Num, g.Den)
	second := commonDivisor(g.Num, f.Den)
	num := multiply(f.Num/first, g.Num/second)
	return fractionOf(num, multiply(f.Den/second, g.Den/first))
}

// DivFractions returns f / g.
func DivFractions(f, g Fraction) (Fraction, bool) {
	if !ValidFraction(g) || g.Num == 0 {
		return Fraction{}, false
	}
	if g.Num < 0 {
		return MulFractions(f, Fraction{-g.Den, -g.Num})
	}
	return MulFractions(f, Fraction{g.Den, g.Num})
}

// CompareFractions compares f and g.
func CompareFractions(f, g Fraction) (int64, bool) {
	if !ValidFraction(f) || !ValidFraction(g) {
		return 0, false
	}
	return multiply(f.Num, g.Den).plus(multiply(-g.Num, f.Den)).sign(), true
}

// SumFractions returns the sum of fractions.
func SumFractions(list []Fraction) (Fraction, bool) {
	sum := Fraction{0, 1}
	if len(list) > MaxItems {
		return Fraction{}, false
	}
	for _, f := range list {
		next, ok := AddFractions(sum, f)
		if !ok {
			return Fraction{}, false
		}
		sum = next
	}
	return sum, true
}

// FractionText returns the text of a fraction.
func FractionText(f Fraction) (string, bool) {
	if !ValidFraction(f) {
		return "", false
	}
	if f.Den == 1 {
		return Decimal(f.Num), true
	}
	return Decimal(f.Num) + "/" + Decimal(f.Den), true
}

// ReadFraction returns the fraction with the given text.
func ReadFraction(s string) (Fraction, bool) {
	numText, denText, hasDen := strings.Cut(s, "/")
	if !hasDen {
		denText = "1"
	}
	num, numOK := readWhole(numText)
	den, denOK := readWhole(denText)
	f := Fraction{num, den}
	// The whole number 3 is written 3, so that 3/1 is the text of no fraction.
	if !numOK || !denOK || !ValidFraction(f) || hasDen && den == 1 {
		return Fraction{}, false
	}
	return f, true
}

// BinomialOf returns the number of ways to choose k of n things.
func BinomialOf(n, k int64) (int64, bool) {
	if !isBetween(n, 0, MaxChoose) || !isBetween(k, 0, n) {
		return 0, false
	}
	ways := int64(1)
	for i := range k {
		// This is exact, as the product is i + 1 times the number of ways to
		// choose i + 1 things; for MaxChoose, it is less than 4e18.
		ways = ways * (n - i) / (i + 1)
	}
	return ways, true
}

// ListText returns the text of a list.
func ListText(list []int64) (string, bool) {
	if !isList(list) {
		return "", false
	}
	if len(list) == 0 {
		return noneText, true
	}
	texts := make([]string, len(list))
	for i, n := range list {
		texts[i] = Decimal(n)
	}
	return strings.Join(texts, ","), true
}

// ReadList returns the list with the given text.
func ReadList(s string) ([]int64, bool) {
	list := []int64{}
	if s == noneText {
		return list, true
	}
	texts := strings.SplitN(s, ",", MaxItems+1)
	if len(texts) > MaxItems {
		return nil, false
	}
	for _, text := range texts {
		n, ok := ReadDecimal(text)
		if !ok {
			return nil, false
		}
		list = append(list, n)
	}
	return list, true
}

// CheckOf returns the check number of a text.
func CheckOf(start int64, s string) (int64, bool) {
	if !isBetween(start, 0, CheckSize-1) {
		return 0, false
	}
	check := start
	for i := range len(s) {
		check = (CheckStep*check + int64(s[i]) + 1) % CheckSize
	}
	return check, true
}

func isBetween[N cmp.Ordered](n, least, greatest N) bool {
	return least <= n && n <= greatest
}

func areBetween[N cmp.Ordered](list []N, least, greatest N) bool {
	for _, n := range list {
		if !isBetween(n, least, greatest) {
			return false
		}
	}
	return true
}

func isIncreasing[N cmp.Ordered](list []N) bool {
	for i := range len(list) - 1 {
		if list[i] >= list[i+1] {
			return false
		}
	}
	return true
}

func hasOnly(s string, first, last rune) bool {
	for _, r := range s {
		if !isBetween(r, first, last) {
			return false
		}
	}
	return true
}

// ones returns the greatest number with as many bits as width, at most 62.
func ones(width int64) int64 { return int64(1)<<width - 1 }

// weightOf returns how many of the 64 bits of n are 1.
func weightOf(n int64) int64 { return int64(bits.OnesCount64(uint64(n))) }

// parity returns 1 if an odd number of the bits of n are 1, and 0 otherwise.
func parity(n int64) int64 { return weightOf(n) % 2 }

func isValue(n int64) bool { return isBetween(n, -MaxValue, MaxValue) }

func isPart(n int64) bool { return isBetween(n, -MaxPart, MaxPart) }

func isList(list []int64) bool {
	return len(list) <= MaxItems && areBetween(list, -MaxValue, MaxValue)
}

// readWhole returns the int64 whose Decimal is s. Comparing with Decimal keeps
// out what ParseInt reads besides, such as +1, -0 and 01.
func readWhole(s string) (int64, bool) {
	n, err := strconv.ParseInt(s, 10, 64)
	if err != nil || Decimal(n) != s {
		return 0, false
	}
	return n, true
}

// commonDivisor returns the greatest common divisor, which is never negative.
// Neither number may be the least int64.
func commonDivisor(a, b int64) int64 {
	for b != 0 {
		a, b = b, a%b
	}
	if a < 0 {
		return -a
	}
	return a
}

// wide is a whole number of 128 bits in two's complement: sums of two products
// of parts of fractions need 122 of them.
type wide struct {
	high, low uint64
}

func sizeOf(n int64) uint64 {
	if n < 0 {
		return -uint64(n)
	}
	return uint64(n)
}

func multiply(a, b int64) wide {
	high, low := bits.Mul64(sizeOf(a), sizeOf(b))
	if (a < 0) != (b < 0) {
		return wide{high, low}.negated()
	}
	return wide{high, low}
}

func (w wide) plus(v wide) wide {
	low, carry := bits.Add64(w.low, v.low, 0)
	high, _ := bits.Add64(w.high, v.high, carry)
	return wide{high, low}
}

func (w wide) negated() wide {
	return wide{^w.high, ^w.low}.plus(wide{0, 1})
}

func (w wide) sign() int64 {
	switch {
	case int64(w.high) < 0:
		return -1
	case w.high == 0 && w.low == 0:
		return 0
	}
	return 1
}

func (w wide) size() wide {
	if w.sign() < 0 {
		return w.negated()
	}
	return w
}

// remainder returns the remainder of the size of w, for a divisor of at least 1.
func (w wide) remainder(divisor int64) int64 {
	size := w.size()
	return int64(bits.Rem64(size.high, size.low, uint64(divisor)))
}

// over returns the quotient of w and a divisor of at least 1, rounded towards 0.
func (w wide) over(divisor int64) wide {
	size := w.size()
	d := uint64(divisor)
	low, _ := bits.Div64(size.high%d, size.low, d)
	quotient := wide{size.high / d, low}
	if w.sign() < 0 {
		return quotient.negated()
	}
	return quotient
}

// part returns w as an int64 if it is small enough for a part of a fraction.
func (w wide) part() (int64, bool) {
	size := w.size()
	if size.high != 0 || size.low > MaxPart {
		return 0, false
	}
	return int64(w.low), true
}

// fractionOf returns the fraction with the given parts in lowest terms.
func fractionOf(num, den wide) (Fraction, bool) {
	n, numOK := num.part()
	d, denOK := den.part()
	if !numOK || !denOK {
		return Fraction{}, false
	}
	return Fraction{n, d}, true
}
