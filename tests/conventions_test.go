package tests

import (
	"math"
	"reflect"
	"slices"
	"strings"
	"sync"
	"testing"

	"loop.example/g01121/impl"
)

// A listed function is one that the document lists. Its arguments are taken
// from pools by their types, so that a test of the conventions needs no more
// than the function itself.
type listed struct {
	name     string
	function any
	succeeds bool // the last result says whether the function succeeds
}

func basicFunctions() []listed {
	return []listed{
		{"IsName", impl.IsName, false},
		{"Decimal", impl.Decimal, false},
		{"ReadDecimal", impl.ReadDecimal, true},
		{"IsBits", impl.IsBits, false},
		{"OnesOf", impl.OnesOf, true},
		{"XorBits", impl.XorBits, true},
		{"RunLengths", impl.RunLengths, true},
		{"BitsOf", impl.BitsOf, true},
		{"NumberOfBits", impl.NumberOfBits, true},
		{"ParityOf", impl.ParityOf, true},
		{"ValidFraction", impl.ValidFraction, false},
		{"MakeFraction", impl.MakeFraction, true},
		{"AddFractions", impl.AddFractions, true},
		{"SubFractions", impl.SubFractions, true},
		{"MulFractions", impl.MulFractions, true},
		{"DivFractions", impl.DivFractions, true},
		{"CompareFractions", impl.CompareFractions, true},
		{"SumFractions", impl.SumFractions, true},
		{"FractionText", impl.FractionText, true},
		{"ReadFraction", impl.ReadFraction, true},
		{"BinomialOf", impl.BinomialOf, true},
		{"ListText", impl.ListText, true},
		{"ReadList", impl.ReadList, true},
		{"CheckOf", impl.CheckOf, true},
	}
}

func registerFunctions() []listed {
	return []listed{
		{"ValidRegister", impl.ValidRegister, false},
		{"StepRegister", impl.StepRegister, true},
		{"RegisterBits", impl.RegisterBits, true},
		{"JumpRegister", impl.JumpRegister, true},
		{"RegisterCycle", impl.RegisterCycle, true},
		{"PolyOf", impl.PolyOf, true},
		{"MulPolys", impl.MulPolys, true},
		{"DividePolys", impl.DividePolys, true},
		{"GcdPolys", impl.GcdPolys, true},
		{"PowerOfX", impl.PowerOfX, true},
		{"FactorsOf", impl.FactorsOf, true},
		{"OrderOfX", impl.OrderOfX, true},
		{"IsPrimitive", impl.IsPrimitive, false},
		{"ShortestRegister", impl.ShortestRegister, true},
		{"WidthsOf", impl.WidthsOf, true},
		{"AgreementsOf", impl.AgreementsOf, true},
		{"TakeEvery", impl.TakeEvery, true},
		{"TableCycles", impl.TableCycles, true},
		{"IsAllWords", impl.IsAllWords, false},
		{"LeastAllWords", impl.LeastAllWords, true},
	}
}

func congruenceFunctions() []listed {
	return []listed{
		{"ValidCongruence", impl.ValidCongruence, false},
		{"NextState", impl.NextState, true},
		{"StatesOf", impl.StatesOf, true},
		{"JumpState", impl.JumpState, true},
		{"PowerCongruence", impl.PowerCongruence, true},
		{"BackCongruence", impl.BackCongruence, true},
		{"StateCycle", impl.StateCycle, true},
		{"IsFull", impl.IsFull, false},
		{"FactorOrder", impl.FactorOrder, true},
		{"ShortestPoint", impl.ShortestPoint, true},
		{"ShortestWave", impl.ShortestWave, true},
		{"ModulusFrom", impl.ModulusFrom, true},
		{"FactorsFrom", impl.FactorsFrom, true},
		{"CongruenceText", impl.CongruenceText, true},
		{"ReadCongruence", impl.ReadCongruence, true},
	}
}

func combinerFunctions() []listed {
	return []listed{
		{"IsTable", impl.IsTable, false},
		{"InputsOf", impl.InputsOf, true},
		{"ValueAt", impl.ValueAt, true},
		{"NormalForm", impl.NormalForm, true},
		{"DegreeOf", impl.DegreeOf, true},
		{"SpectrumOf", impl.SpectrumOf, true},
		{"BalanceOf", impl.BalanceOf, true},
		{"ImmunityOf", impl.ImmunityOf, true},
		{"NonlinearityOf", impl.NonlinearityOf, true},
		{"NearestSum", impl.NearestSum, true},
		{"ShiftsOf", impl.ShiftsOf, true},
		{"FixedShifts", impl.FixedShifts, true},
		{"AnnihilatorDegree", impl.AnnihilatorDegree, true},
		{"CombineBits", impl.CombineBits, true},
		{"CombinedWidth", impl.CombinedWidth, true},
		{"ShrinkBits", impl.ShrinkBits, true},
		{"BestStates", impl.BestStates, true},
	}
}

func testFunctions() []listed {
	return []listed{
		{"ValidLaw", impl.ValidLaw, false},
		{"ChanceOf", impl.ChanceOf, true},
		{"TailOf", impl.TailOf, true},
		{"LevelOf", impl.LevelOf, true},
		{"MeanOf", impl.MeanOf, true},
		{"VarianceOf", impl.VarianceOf, true},
		{"JoinLaws", impl.JoinLaws, true},
		{"OnesLaw", impl.OnesLaw, true},
		{"RunsLaw", impl.RunsLaw, true},
		{"LongestLaw", impl.LongestLaw, true},
		{"PatternLaw", impl.PatternLaw, true},
		{"DifferentLaw", impl.DifferentLaw, true},
		{"LongestRun", impl.LongestRun, true},
		{"CountPattern", impl.CountPattern, true},
		{"TestLevels", impl.TestLevels, true},
		{"LawText", impl.LawText, true},
	}
}

func drawingFunctions() []listed {
	return []listed{
		{"IsDyadic", impl.IsDyadic, false},
		{"TreeLeaves", impl.TreeLeaves, true},
		{"RollTree", impl.RollTree, true},
		{"TreeCost", impl.TreeCost, true},
		{"AliasTable", impl.AliasTable, true},
		{"AliasFace", impl.AliasFace, true},
		{"RollReject", impl.RollReject, true},
		{"RejectCost", impl.RejectCost, true},
		{"RollDice", impl.RollDice, true},
		{"DiceCost", impl.DiceCost, true},
		{"CoinFrom", impl.CoinFrom, true},
		{"FairPairs", impl.FairPairs, true},
		{"FairDeep", impl.FairDeep, true},
		{"FairBlock", impl.FairBlock, true},
		{"PairCost", impl.PairCost, true},
	}
}

func shuffleFunctions() []listed {
	return []listed{
		{"IsOrder", impl.IsOrder, false},
		{"ShuffleBy", impl.ShuffleBy, true},
		{"ChoicesOf", impl.ChoicesOf, true},
		{"CyclicBy", impl.CyclicBy, true},
		{"NaiveBy", impl.NaiveBy, true},
		{"NaiveCounts", impl.NaiveCounts, true},
		{"RankOrder", impl.RankOrder, true},
		{"OrderAt", impl.OrderAt, true},
		{"CyclesOf", impl.CyclesOf, true},
		{"CountCycles", impl.CountCycles, true},
		{"RisingOf", impl.RisingOf, true},
		{"CountRising", impl.CountRising, true},
		{"RiffleChance", impl.RiffleChance, true},
		{"RiffleDistance", impl.RiffleDistance, true},
		{"ReservoirBy", impl.ReservoirBy, true},
		{"SampleBy", impl.SampleBy, true},
		{"RankSet", impl.RankSet, true},
		{"SetAt", impl.SetAt, true},
	}
}

func hiddenFunctions() []listed {
	return []listed{
		{"ValidLinear", impl.ValidLinear, false},
		{"StepLinear", impl.StepLinear, true},
		{"LinearBits", impl.LinearBits, true},
		{"JumpLinear", impl.JumpLinear, true},
		{"BackLinear", impl.BackLinear, true},
		{"OfRegister", impl.OfRegister, true},
		{"OfXorshift", impl.OfXorshift, true},
		{"OutputRank", impl.OutputRank, true},
		{"StatesBehind", impl.StatesBehind, true},
		{"PredictBit", impl.PredictBit, true},
		{"RegisterOf", impl.RegisterOf, true},
		{"ValidTemper", impl.ValidTemper, false},
		{"TemperWord", impl.TemperWord, true},
		{"UntemperWord", impl.UntemperWord, true},
		{"SeedsBehind", impl.SeedsBehind, true},
	}
}

func walkFunctions() []listed {
	return []listed{
		{"IsSource", impl.IsSource, false},
		{"DistanceOf", impl.DistanceOf, true},
		{"GreatestOf", impl.GreatestOf, true},
		{"CollisionOf", impl.CollisionOf, true},
		{"ExtractBy", impl.ExtractBy, true},
		{"ExtractDistance", impl.ExtractDistance, true},
		{"AverageDistance", impl.AverageDistance, true},
		{"BestRows", impl.BestRows, true},
		{"ValidWalk", impl.ValidWalk, false},
		{"StepWalk", impl.StepWalk, true},
		{"RunWalk", impl.RunWalk, true},
		{"ContractionOf", impl.ContractionOf, true},
		{"SettledOf", impl.SettledOf, true},
		{"IsReversible", impl.IsReversible, false},
		{"HittingTimes", impl.HittingTimes, true},
		{"MixingSteps", impl.MixingSteps, true},
	}
}

func pointFunctions() []listed {
	return []listed{
		{"ValidNet", impl.ValidNet, false},
		{"NetPoints", impl.NetPoints, true},
		{"QualityOf", impl.QualityOf, true},
		{"ReversedNet", impl.ReversedNet, true},
		{"PascalNet", impl.PascalNet, true},
		{"ScrambleNet", impl.ScrambleNet, true},
		{"IsPoints", impl.IsPoints, false},
		{"BoxCounts", impl.BoxCounts, true},
		{"IsEven", impl.IsEven, false},
		{"ShiftPoints", impl.ShiftPoints, true},
		{"StarDistance", impl.StarDistance, true},
		{"RadicalInverse", impl.RadicalInverse, true},
		{"HaltonPoint", impl.HaltonPoint, true},
		{"GridPoints", impl.GridPoints, true},
		{"GridFigure", impl.GridFigure, true},
		{"BestGrid", impl.BestGrid, true},
	}
}

func labFunctions() []listed {
	return []listed{
		{"ValidStream", impl.ValidStream, false},
		{"TakeBits", impl.TakeBits, true},
		{"SkipStream", impl.SkipStream, true},
		{"StreamCycle", impl.StreamCycle, true},
		{"SplitStream", impl.SplitStream, true},
		{"AreApart", impl.AreApart, true},
		{"FacesOf", impl.FacesOf, true},
		{"OrderOf", impl.OrderOf, true},
		{"StreamLevels", impl.StreamLevels, true},
		{"StreamText", impl.StreamText, true},
		{"ReadStream", impl.ReadStream, true},
		{"ValidLab", impl.ValidLab, false},
		{"LabCommand", impl.LabCommand, true},
		{"RunLab", impl.RunLab, true},
		{"JournalOf", impl.JournalOf, true},
		{"RecoverJournal", impl.RecoverJournal, true},
	}
}

func numberPool() []int64 {
	return []int64{
		math.MinInt64, math.MinInt64 + 1, -impl.MaxPart - 1, -impl.MaxPart,
		-impl.MaxValue - 1, -impl.MaxValue, -400, -2, -1, 0, 1, 2, 3, 4, 5, 6, 7, 8, 9, 10, 12, 13, 15, 16, 17, 20, 21, 32, 33, 50, 51,
		59, 60, 61, 63, 64, 65, 255, 256, 399, 400, 401, 9999, 10000, 10001, 65535, 65536, 69643, 99999, 100000, 100001, 131071, 131072,
		impl.CheckSize - 1, impl.CheckSize, 999999, 1000000, 1000001, impl.PolyLimit - 1, impl.PolyLimit,
		impl.MaxValue - 1, impl.MaxValue, impl.MaxValue + 1,
		impl.MaxPart - 1, impl.MaxPart, impl.MaxPart + 1, math.MaxInt64 - 1, math.MaxInt64,
	}
}

// shortNumberPool is for functions with so many numbers that the lists of
// arguments from numberPool would be too many.
func shortNumberPool() []int64 {
	return []int64{math.MinInt64, -impl.MaxPart, -1, 0, 1, 2, 3, 8, 15, 16, 17, 64, 65535, 65536, math.MaxInt64}
}

func textPool() []string {
	return []string{
		"", "a", "coin", "zzzzzzzzzz", "aaaaaaaaaaa", "Coin", "a1", "é", "\xff", "\x00",
		"0", "1", "01", "0110", strings.Repeat("01", 30), strings.Repeat("1", 61),
		strings.Repeat("01", 200), strings.Repeat("0", 401), "012", "0011", "00010111",
		strings.Repeat("0", 15) + "1", strings.Repeat("0", 16) + "1", strings.Repeat("1", 32), strings.Repeat("0", 33), strings.Repeat("10", 32),
		"-1", "-0", "+1", "007", " 1", "1.0", "1000000000000000", "1000000000000001",
		"-9223372036854775808", "9223372036854775808", strings.Repeat("9", 100),
		"1/2", "2/4", "3/1", "-3/2", "1/0", "1/-2", "/", "1/", "/2", "1/2/3",
		"none", "None", "1,2", "1,,2", ",", "none,1", strings.Repeat("1,", 63) + "1", strings.Repeat("1,", 64) + "1",
		"10,3,1", "10,10,1", "100000,99999,99999", "100001,1,1", "2,0,0", "1,0,0", "10,3", "10,3,1,0", "10,03,1",
		"10", "01101001", strings.Repeat("0", 64), strings.Repeat("1", 64), strings.Repeat("0110100110010110", 4), strings.Repeat("1", 63), strings.Repeat("0", 128),
		"010101", "111111", "0101010", strings.Repeat("01", 25), strings.Repeat("1", 50), strings.Repeat("0", 51), "0110 ", "０１",
		"r:3:3:1", "c:10:3:1:0", "r:3:3:8", "c:10:3:1:0:0", "r:0:0:0", "r:3:3:1:", "c:100000:21:3:99999",
		"set q r:3:3:1", "copy x y", "drop x", "bits x 3", "skip y 2", "roll x 6", "cards x 5", "levels x 9", "show x", "cycle y",
		"set q r:3:3:1\nbits q 9\ndrop x\ncards q 12\n", "roll x 3\nlevels y 50\nfly\n\nshow x\n", "show x\nshow x",
		"98 a\n98 \nxx", "0 \n0 \n", "98 a\n97 \n", strings.Repeat("\n", 4000), strings.Repeat("\n", 4001),
	}
}

func fractionPool() []impl.Fraction {
	return []impl.Fraction{
		{}, {Num: 0, Den: 1}, {Num: 0, Den: 2}, {Num: 1, Den: 0}, {Num: 1, Den: 1}, {Num: -1, Den: 1},
		{Num: 1, Den: 2}, {Num: -1, Den: 2}, {Num: 1, Den: -2}, {Num: -1, Den: -2}, {Num: 2, Den: 4}, {Num: 2, Den: 3},
		{Num: 1, Den: 1000000000}, {Num: 1, Den: 1000000001}, {Num: 1000000000, Den: 1000000001}, {Num: 3, Den: 2},
		{Num: impl.MaxPart, Den: 1}, {Num: -impl.MaxPart, Den: 1}, {Num: 1, Den: impl.MaxPart}, {Num: -1, Den: impl.MaxPart},
		{Num: impl.MaxPart, Den: impl.MaxPart - 1}, {Num: impl.MaxPart - 1, Den: impl.MaxPart},
		{Num: impl.MaxPart, Den: impl.MaxPart}, {Num: impl.MaxPart + 1, Den: 1}, {Num: 1, Den: impl.MaxPart + 1},
		{Num: math.MinInt64, Den: 1}, {Num: math.MaxInt64, Den: 1}, {Num: 1, Den: math.MaxInt64},
		{Num: math.MinInt64, Den: math.MinInt64}, {Num: 1, Den: math.MinInt64},
	}
}

func registerPool() []impl.Register {
	return []impl.Register{
		{}, {Width: 0, Taps: 1}, {Width: 1}, {Width: 1, Taps: 1}, {Width: 1, Taps: 2}, {Width: 3, Taps: 3}, {Width: 3, Taps: 8},
		{Width: 10}, {Width: 10, Taps: 9}, {Width: 10, Taps: 1024}, {Width: 11, Taps: 5},
		{Width: 16}, {Width: 16, Taps: 4107}, {Width: 16, Taps: 65535}, {Width: 16, Taps: 65536}, {Width: 17, Taps: 1},
		{Width: -1}, {Width: 3, Taps: -1}, {Width: 64, Taps: 1}, {Width: math.MinInt64, Taps: math.MinInt64}, {Width: math.MaxInt64, Taps: math.MaxInt64},
	}
}

func congruencePool() []impl.Congruence {
	return []impl.Congruence{
		{}, {Modulus: 1}, {Modulus: 2}, {Modulus: 2, Factor: 1, Add: 1}, {Modulus: 2, Factor: 2}, {Modulus: 2, Add: 2},
		{Modulus: 10, Factor: 3, Add: 1}, {Modulus: 10, Factor: 2}, {Modulus: 10, Factor: 10, Add: 1}, {Modulus: 10, Factor: 3, Add: 10},
		{Modulus: 10, Factor: -1}, {Modulus: 10, Add: -1}, {Modulus: -10, Factor: -3, Add: -1}, {Modulus: 16, Factor: 5, Add: 3},
		{Modulus: 100000}, {Modulus: 100000, Factor: 21, Add: 3}, {Modulus: 100000, Factor: 99999, Add: 99999}, {Modulus: 100000, Factor: 100000},
		{Modulus: 100001, Factor: 1, Add: 1}, {Factor: 1, Add: 1}, {Modulus: 99991, Factor: 48271},
		{Modulus: math.MaxInt64, Factor: math.MaxInt64 - 1, Add: math.MaxInt64 - 1}, {Modulus: math.MinInt64, Factor: math.MinInt64, Add: math.MinInt64},
		{Modulus: 10, Factor: math.MinInt64, Add: math.MaxInt64},
	}
}

// repeated returns a list with spare capacity that is not all zero.
func repeated[T any](x T, count int) []T {
	list := make([]T, count+2)
	for i := range list {
		list[i] = x
	}
	return list[:count]
}

func numberListPool() [][]int64 {
	return [][]int64{
		nil, {}, {0}, {5, -3, 5}, repeated[int64](7, 64), repeated[int64](7, 65), repeated[int64](0, 0),
		{impl.MaxValue, -impl.MaxValue}, {impl.MaxValue + 1}, {1, -impl.MaxValue - 1}, {math.MinInt64}, {math.MaxInt64},
		{1, 4, 3, 0}, {1, 1, 1, 1}, {0, 1, 2}, {0, 99999, 0, 99999, 5}, {1, 4, 3, 100000}, {1, 4, -3, 0}, repeated[int64](99999, 63),
		{5}, {17}, {2, 16}, {2, 3, 4}, repeated[int64](16, 6), repeated[int64](17, 6), repeated[int64](0, 6), repeated[int64](1, 7),
		{3, 4, 1}, {1, 5, 0}, {0, 1}, {3, 4}, {1}, {4096}, {8192}, {-1, 5}, {1000000}, {999999, 2}, repeated[int64](1, 16), repeated[int64](1, 17), repeated[int64](256, 16), repeated[int64](512, 16), repeated[int64](62500, 16), {math.MaxInt64, math.MaxInt64, 6},
		{2, 1, 0}, {2, 0, 3, 1}, {0, 2, 4}, []int64{1, 0, 2}[:2], valuesFrom(0, 1, 12), reversed(valuesFrom(0, 1, 12)), valuesFrom(0, 1, 13)[:12], valuesFrom(0, 1, 13), reversed(valuesFrom(0, 1, 12))[:11], repeated[int64](0, 11), repeated[int64](0, 12), repeated[int64](0, 13),
		repeated[int64](11, 12), valuesFrom(0, 1, 60), valuesFrom(1, 1, 60), valuesFrom(59, 1, 1),
		[]int64{1, 3, 9}[:2], {1, 2, 7}, {1, 3, 5, 12, 24, 33}, {1, 0, 3, 2}, {2, 3, 5, 36},
	}
}

func streamsPool() [][]string {
	long := strings.Repeat("0110", 100)
	return [][]string{
		nil, {}, {""}, {"0"}, {"2"}, {long}, {long + "0"}, {"0011", "0101"}, {"0011", "010"}, {"0011", "01a1"}, {"", ""},
		{"0011", "0101", "1111"}, {"é0", "000", "000"}, repeated(long, 6), repeated(long+"1", 6), repeated("", 6), repeated("1", 7), repeated("01", 0),
		{"a", ""}, {"a\nb"}, {"set x r:3:3:1", "bits x 3", " ", "\xff"}, repeated("", 1333), repeated("", 1334), {strings.Repeat("a", 4000)},
	}
}

func fractionListPool() [][]impl.Fraction {
	return [][]impl.Fraction{
		nil, {}, {{Num: 1, Den: 6}, {Num: 1, Den: 3}}, repeated(impl.Fraction{Num: 1, Den: 64}, 64),
		repeated(impl.Fraction{Num: 0, Den: 1}, 65), {{}}, {{Num: impl.MaxPart, Den: 1}, {Num: 1, Den: 1}},
		{{Num: math.MinInt64, Den: 1}}, {{Num: 1, Den: 2}, {Num: 2, Den: 4}},
		repeated(part(1, 1), 1), repeated(part(1, 2), 2), repeated(part(1, 4), 4), tiltedChances(6), tiltedChances(8), repeated(part(1, 16), 16), repeated(part(1, 17), 17),
		{part(4, 3), part(-1, 3)}, {part(1, 2), part(1, 3)},
	}
}

// lawPool has, besides the laws of someLaws and wrongLaws, laws with spare
// capacity.
func lawPool() []impl.Law {
	spare, none := evenLaw(valuesFrom(0, 1, 64)), impl.Law{Values: repeated[int64](0, 0), Chances: repeated(part(1, 1), 0)}
	spare.Values = append(make([]int64, 0, 70), spare.Values...)
	spare.Chances = append(make([]impl.Fraction, 0, 70), spare.Chances...)
	list := []impl.Law{spare, none, {Values: repeated[int64](3, 1), Chances: repeated(part(1, 1), 1)}, {Values: repeated[int64](3, 2), Chances: repeated(part(1, 2), 2)}}
	return slices.Concat(list, someLaws()[:40], wrongLaws())
}

func machinePool() []impl.Linear {
	spare := turning(3, 5)
	spare.Rows = append(make([]int64, 0, 20), spare.Rows...)
	wrong := []impl.Linear{
		{Width: 2, Rows: []int64{1, 1, 9}[:1], Out: 1}, {Width: 2, Rows: []int64{1, 2, 9}, Out: 1}, {Width: 2, Rows: []int64{1, 2, 9}[:2], Out: 4},
	}
	list := []impl.Linear{spare, turning(1, 1), turning(1, 0), turning(16, 1), stacked(16, 65535), tapped(3, 3), tapped(16, 4107), forgetful(16), forgetful(4)}
	return slices.Concat(list, wrong, wrongMachines()[:18])
}

func seenPool() [][]impl.Seen {
	mixed := append(make([]impl.Seen, 0, 80), impl.Seen{At: maxAt, Bit: 1}, impl.Seen{At: 3}, impl.Seen{At: 0, Bit: 1})
	return [][]impl.Seen{
		nil, {}, {{}}, {{Bit: 1}}, {{At: 2, Bit: 1}}, {{At: 0, Bit: 1}, {At: 3, Bit: 1}}, {{At: 5, Bit: 1}, {At: 5}}, {{At: 5, Bit: 1}, {At: 5, Bit: 1}},
		mixed, {{At: maxAt}, {At: maxAt - 1}}, {{At: maxAt + 1}}, {{At: -1}}, {{Bit: 2}}, {{Bit: -1}}, {{At: 16, Bit: 1}, {At: 17, Bit: math.MaxInt64}}, {{At: math.MinInt64, Bit: 1}},
		{{At: math.MaxInt64}}, repeated(impl.Seen{At: maxAt}, 64), repeated(impl.Seen{At: 7, Bit: 1}, 64), repeated(impl.Seen{At: 1}, 65), repeated(impl.Seen{At: 1}, 0),
	}
}

// walkPool has, besides other walks and wrong ones, walks with spare capacity.
func walkPool() []impl.Walk {
	spare := impl.Walk{Rows: repeated(repeated(part(1, 2), 2), 2)}
	mixed := bigWalk(6)
	for i, row := range mixed.Rows {
		mixed.Rows[i] = append(make([]impl.Fraction, 0, 9), row...)
	}
	list := []impl.Walk{
		spare, mixed, leadingTo(0), leadingTo(1, 0), leadingTo(0, 1), leadingTo(1, 2, 3, 4, 5, 5), absorbing(4), absorbing(6), balancedWalk(2), balancedWalk(6), bigWalk(4),
		walkOf([]int64{1, 1}, []int64{1, 0}), walkOf([]int64{maxPart - 1, 1}, []int64{1, 0}),
	}
	return append(list, wrongWalks()[:14]...)
}

// netPool has, besides other nets and wrong ones, nets with spare capacity.
func netPool() []impl.Net {
	d := draws(1031)
	list := []impl.Net{
		{Matrices: repeated(repeated[int64](1, 0), 4)}, {Bits: 1, Matrices: repeated(repeated[int64](1, 1), 4)}, {Bits: 2, Matrices: [][]int64{[]int64{1, 2, 3}[:2], []int64{3, 1, 2}[:2]}},
		{Bits: 3, Matrices: [][]int64{{1, 2, 4}, {7, 2, 4}}}, {Bits: 6, Matrices: repeated(repeated[int64](0, 6), 2)}, goodNet(5, 3, &d), goodNet(6, 4, &d), drawnNet(6, 4, &d), drawnNet(3, 1, &d),
	}
	return append(list, wrongNets()[:14]...)
}

// pointListPool has points with few and with many bits, some of them with spare
// capacity, and wrong ones.
func pointListPool() [][][]int64 {
	d := draws(1032)
	list := [][][]int64{
		repeated([]int64{0}, 64), repeated(repeated[int64](1, 2), 3), {{0, 0}, {1, 2}, {2, 1}, {3, 3}}, {[]int64{5, 60, 9}[:2], {63, 0}}, repeated([]int64{0, 0}, 65),
		{{1, 0, 1}, {0, 1, 1}}, drawnScatter(64, 1, 6, &d).points, drawnScatter(64, 2, 6, &d).points, drawnScatter(64, 4, 6, &d).points, drawnScatter(2, 3, 2, &d).points,
		{{-1}}, {{64}}, {{1, 2}, {1}}, {{1}, {1, 2}}, {{math.MinInt64, math.MaxInt64}}, {{0, 0, 0, 0, 0}},
	}
	for _, s := range wrongScatters()[:9] {
		list = append(list, s.points)
	}
	return list
}

func streamPool() []impl.Stream {
	r, c := exampleStreams()
	list := []impl.Stream{
		r, c, {}, lateOnes(), endlessOnes()[0], ofRegister(impl.Register{Width: 16, Taps: 4107}, 65535), ofCongruence(impl.Congruence{Modulus: 1000, Factor: 21, Add: 3}, 999),
		ofCongruence(impl.Congruence{Modulus: 64, Factor: 2, Add: 1}, 7), {Kind: -1}, {Kind: 2, Register: r.Register}, {Kind: math.MaxInt64}, {Kind: impl.StreamCongruence},
	}
	return slices.Concat(list, wrongStreams()[:2], wrongStates()[:10])
}

// labPool has, besides other labs and wrong ones, labs with spare capacity.
func labPool() []impl.Lab {
	r, c := exampleStreams()
	spare, wrong := exampleLab(), wrongLabs()
	spare.Names = append(repeated("spare", 10)[:0], spare.Names...)
	spare.Streams = append(repeated(r, 10)[:0], spare.Streams...)
	list := []impl.Lab{{}, spare, fullLab(), {Names: repeated("x", 1), Streams: repeated(c, 1)}, {Names: repeated("x", 0), Streams: repeated(c, 0)}}
	return slices.Concat(list, wrong[:16], wrong[len(wrong)-4:])
}

func temperPool() []impl.Temper { return slices.Concat(someTempers(), wrongTempers()[:30]) }

func poolOf[T any](list []T) []reflect.Value {
	var pool []reflect.Value
	for _, x := range list {
		pool = append(pool, reflect.ValueOf(x))
	}
	return pool
}

// argumentPools are made once, as some of them need long searches for primes.
var argumentPools = sync.OnceValue(func() [][]reflect.Value {
	return [][]reflect.Value{
		poolOf(numberPool()), poolOf(textPool()), poolOf(fractionPool()),
		poolOf(numberListPool()), poolOf(fractionListPool()), poolOf(registerPool()), poolOf(congruencePool()),
		poolOf(streamsPool()), poolOf(lawPool()),
		poolOf(machinePool()), poolOf(seenPool()), poolOf(temperPool()), poolOf(walkPool()),
		poolOf(netPool()), poolOf(pointListPool()), poolOf(streamPool()), poolOf(labPool()),
	}
})

func argumentPool(t *testing.T, kind reflect.Type) []reflect.Value {
	t.Helper()
	for _, pool := range argumentPools() {
		if pool[0].Type() == kind {
			return pool
		}
	}
	t.Fatalf("there are no arguments of the type %v", kind)
	return nil
}

// allArguments returns all lists of arguments that the pools give.
func allArguments(t *testing.T, kind reflect.Type) [][]reflect.Value {
	t.Helper()
	lists := [][]reflect.Value{nil}
	for i := range kind.NumIn() {
		var longer [][]reflect.Value
		pool := argumentPool(t, kind.In(i))
		if kind.NumIn() > 3 && kind.In(i).Kind() == reflect.Int64 {
			pool = poolOf(shortNumberPool())
		}
		for _, list := range lists {
			for _, argument := range pool {
				longer = append(longer, append(slices.Clone(list), argument))
			}
		}
		lists = longer
	}
	return lists
}

// wholeCopy copies an argument with the spare capacity of its lists.
func wholeCopy(v reflect.Value) reflect.Value {
	whole := reflect.New(v.Type()).Elem()
	switch v.Kind() {
	case reflect.Slice:
		all := v.Slice(0, v.Cap())
		whole.Set(reflect.MakeSlice(v.Type(), all.Len(), all.Len()))
		for i := range all.Len() {
			whole.Index(i).Set(wholeCopy(all.Index(i)))
		}
	case reflect.Struct:
		for i := range v.NumField() {
			whole.Field(i).Set(wholeCopy(v.Field(i)))
		}
	default:
		whole.Set(v)
	}
	return whole
}

func valuesOf(list []reflect.Value) []any {
	var values []any
	for _, v := range list {
		values = append(values, v.Interface())
	}
	return values
}

func isNothing(v reflect.Value) bool {
	return v.IsZero() || v.Kind() == reflect.Slice && v.Len() == 0
}

// spoil changes all numbers and texts in the lists of a result.
func spoil(v reflect.Value) {
	switch v.Kind() {
	case reflect.Slice:
		for i := range v.Len() {
			spoil(v.Index(i))
		}
	case reflect.Struct:
		for i := range v.NumField() {
			spoil(v.Field(i))
		}
	case reflect.Int64:
		if v.CanSet() {
			v.SetInt(99)
		}
	case reflect.String:
		if v.CanSet() {
			v.SetString("spoiled")
		}
	}
}

func checkConventions(t *testing.T, f listed, arguments []reflect.Value) {
	t.Helper()
	var before []reflect.Value
	for _, v := range arguments {
		before = append(before, wholeCopy(v))
	}
	call := reflect.ValueOf(f.function)
	first := call.Call(arguments)
	again := call.Call(arguments)
	if !reflect.DeepEqual(valuesOf(first), valuesOf(again)) {
		t.Errorf("%s%v: first %v, then %v", f.name, valuesOf(arguments), valuesOf(first), valuesOf(again))
	}
	// Two calls share no memory, so that spoiling one result changes neither
	// an argument nor what the next call returns.
	for _, v := range first {
		spoil(v)
	}
	if third := call.Call(arguments); !reflect.DeepEqual(valuesOf(again), valuesOf(third)) {
		t.Errorf("%s%v: a change to its result lasts", f.name, valuesOf(arguments))
	}
	for i, v := range arguments {
		if !reflect.DeepEqual(before[i].Interface(), wholeCopy(v).Interface()) {
			t.Errorf("%s%v: modifies the argument %d", f.name, valuesOf(arguments), i)
		}
	}
	if last := again[len(again)-1]; f.succeeds && !last.Bool() {
		for _, v := range again {
			if !isNothing(v) {
				t.Errorf("%s%v: fails with the results %v", f.name, valuesOf(arguments), valuesOf(again))
			}
		}
	}
}

func checkPromise1(t *testing.T, functions []listed) {
	t.Helper()
	for _, f := range functions {
		t.Run(f.name, func(t *testing.T) {
			for _, arguments := range allArguments(t, reflect.TypeOf(f.function)) {
				checkConventions(t, f, arguments)
			}
		})
	}
}

// Promise 1, as far as it speaks of chapter 1.
func TestPromise1Basics(t *testing.T) { checkPromise1(t, basicFunctions()) }

// Promise 1, as far as it speaks of chapter 2.
func TestPromise1Registers(t *testing.T) { checkPromise1(t, registerFunctions()) }

// Promise 1, as far as it speaks of chapter 3.
func TestPromise1Congruences(t *testing.T) { checkPromise1(t, congruenceFunctions()) }

// Promise 1, as far as it speaks of chapter 4.
func TestPromise1Combiners(t *testing.T) { checkPromise1(t, combinerFunctions()) }

// Promise 1, as far as it speaks of chapter 5.
func TestPromise1Tests(t *testing.T) { checkPromise1(t, testFunctions()) }

// Promise 1, as far as it speaks of chapter 6.
func TestPromise1Drawing(t *testing.T) { checkPromise1(t, drawingFunctions()) }

// Promise 1, as far as it speaks of chapter 7.
func TestPromise1Shuffles(t *testing.T) { checkPromise1(t, shuffleFunctions()) }

// Promise 1, as far as it speaks of chapter 8.
func TestPromise1Hidden(t *testing.T) { checkPromise1(t, hiddenFunctions()) }

// Promise 1, as far as it speaks of chapter 9.
func TestPromise1Walks(t *testing.T) { checkPromise1(t, walkFunctions()) }

// Promise 1, as far as it speaks of chapter 10.
func TestPromise1Points(t *testing.T) { checkPromise1(t, pointFunctions()) }

// Promise 1, as far as it speaks of chapter 11.
func TestPromise1Lab(t *testing.T) { checkPromise1(t, labFunctions()) }

func TestPromise1LongArguments(t *testing.T) {
	long := strings.Repeat("1", 1<<20)
	commas := strings.Repeat("1,", 1<<20)
	for _, s := range []string{long, commas, "none" + commas, long + "/" + long} {
		_, decimal := impl.ReadDecimal(s)
		_, number := impl.NumberOfBits(s)
		_, fraction := impl.ReadFraction(s)
		_, list := impl.ReadList(s)
		_, runs := impl.RunLengths(s)
		_, _, shortest := impl.ShortestRegister(s)
		_, widths := impl.WidthsOf(s)
		_, agreements := impl.AgreementsOf(s)
		_, taken := impl.TakeEvery(s, 1)
		_, cycles := impl.TableCycles(6, s)
		if shortest || widths || agreements || taken || cycles || impl.IsAllWords(6, s) {
			t.Errorf("a text with %d bytes is accepted as bits", len(s))
		}
		if _, ok := impl.ReadCongruence(s); ok {
			t.Errorf("a text with %d bytes is accepted as a congruence", len(s))
		}
		if impl.IsName(s) || impl.IsBits(s) || decimal || number || fraction || list || runs {
			t.Errorf("a text with %d bytes is accepted", len(s))
		}
	}
	checkLongTables(t, long)
	checkLongLaws(t, long)
	checkLongDraws(t, long)
	checkLongOrders(t)
	checkLongMachines(t)
	checkLongWalks(t)
	checkLongPoints(t)
	checkLongLabs(t, long)
	if _, ok := impl.CheckOf(0, long); !ok {
		t.Error("CheckOf fails for a long text")
	}
	if _, ok := impl.ListText(make([]int64, 1<<20)); ok {
		t.Error("ListText accepts a long list")
	}
	_, modulus := impl.ModulusFrom(make([]int64, 1<<20))
	_, factors := impl.FactorsFrom(2, make([]int64, 1<<20))
	if modulus || factors {
		t.Error("a long list is accepted as outputs")
	}
	if _, ok := impl.SumFractions(repeated(impl.Fraction{Num: 0, Den: 1}, 1<<20)); ok {
		t.Error("SumFractions accepts a long list")
	}
}

// checkLongTables requires that a text whose length is a power of 2, but that
// is too long for a table, for bits and for streams, is accepted as none.
func checkLongTables(t *testing.T, long string) {
	t.Helper()
	_, form := impl.NormalForm(long)
	_, spectrum := impl.SpectrumOf(long)
	_, shifts := impl.ShiftsOf(long)
	_, annihilator := impl.AnnihilatorDegree(long)
	_, combined := impl.CombineBits("01", []string{long})
	_, many := impl.CombineBits(long, repeated("1", 20))
	_, width := impl.CombinedWidth("01", make([]int64, 1<<20))
	_, shrunk := impl.ShrinkBits(long, long)
	_, _, best := impl.BestStates(impl.Register{Width: 3, Taps: 3}, long)
	if impl.IsTable(long) || form || spectrum || shifts || annihilator || combined || many || width || shrunk || best {
		t.Errorf("a text with %d bytes is accepted as a table or as bits", len(long))
	}
	if _, ok := impl.CombineBits("01", make([]string, 1<<20)); ok {
		t.Error("many streams are accepted")
	}
}

func checkLongLaws(t *testing.T, long string) {
	t.Helper()
	values, chances := repeated[int64](1, 1<<20), repeated(part(1, 1<<20), 1<<20)
	for i := range values {
		values[i] = int64(i)
	}
	l := impl.Law{Values: values, Chances: chances}
	_, mean := impl.MeanOf(l)
	_, variance := impl.VarianceOf(l)
	_, joined := impl.JoinLaws(l, l)
	_, text := impl.LawText(l)
	if impl.ValidLaw(l) || mean || variance || joined || text {
		t.Error("a long law is accepted")
	}
	_, law := impl.PatternLaw(50, long)
	_, run := impl.LongestRun(long)
	_, pattern := impl.CountPattern("1", long)
	_, places := impl.CountPattern(long, "1")
	_, levels := impl.TestLevels(long)
	if law || run || pattern || places || levels {
		t.Errorf("a text with %d bytes is accepted as bits or as a pattern", len(long))
	}
}

func checkLongDraws(t *testing.T, long string) {
	t.Helper()
	weights := repeated[int64](1, 1<<12)
	_, leaves := impl.TreeLeaves(weights)
	_, _, face := impl.RollTree(weights, "")
	_, cost := impl.TreeCost(weights)
	_, _, columns := impl.AliasTable(weights)
	_, other := impl.AliasFace(weights, 0, 0)
	if impl.IsDyadic(weights) || leaves || face || cost || columns || other {
		t.Error("a long list is accepted as weights")
	}
	_, _, tree := impl.RollTree([]int64{1, 1}, long)
	_, _, reject := impl.RollReject(2, long)
	_, _, dice := impl.RollDice(2, long)
	_, _, coin := impl.CoinFrom(part(1, 2), long)
	_, pairs := impl.FairPairs(long)
	_, deep := impl.FairDeep(long, 8)
	_, block := impl.FairBlock(long)
	if tree || reject || dice || coin || pairs || deep || block {
		t.Errorf("a text with %d bytes is accepted as bits", len(long))
	}
}

func checkLongOrders(t *testing.T) {
	t.Helper()
	for _, list := range [][]int64{make([]int64, 1<<20), valuesFrom(0, 1, 1<<20)} {
		_, shuffled := impl.ShuffleBy(list)
		_, cyclic := impl.CyclicBy(list)
		_, naive := impl.NaiveBy(list)
		_, kept := impl.ReservoirBy(12, list)
		_, sample := impl.SampleBy(12, list)
		if shuffled || cyclic || naive || kept || sample {
			t.Error("a long list is accepted as choices")
		}
		_, choices := impl.ChoicesOf(list)
		_, rank := impl.RankOrder(list)
		_, cycles := impl.CyclesOf(list)
		_, rising := impl.RisingOf(list)
		_, chance := impl.RiffleChance(list, 5)
		_, set := impl.RankSet(60, list)
		if impl.IsOrder(list) || choices || rank || cycles || rising || chance || set {
			t.Error("a long list is accepted as an order or as a set")
		}
	}
}

func checkLongMachines(t *testing.T) {
	t.Helper()
	long := impl.Linear{Width: 16, Rows: make([]int64, 1<<20), Out: 1}
	for _, width := range []int64{16, 1 << 20} {
		long.Width = width
		_, _, step := impl.StepLinear(long, 0)
		_, jump := impl.JumpLinear(long, 0, 1)
		_, back := impl.BackLinear(long, 0)
		_, rank := impl.OutputRank(long)
		_, _, behind := impl.StatesBehind(long, nil)
		_, _, register := impl.RegisterOf(long, 0)
		if impl.ValidLinear(long) || step || jump || back || rank || behind || register {
			t.Errorf("a machine with the width %d and %d rows is accepted", width, len(long.Rows))
		}
	}
	_, _, behind := impl.StatesBehind(turning(16, 1), make([]impl.Seen, 1<<20))
	_, predicted := impl.PredictBit(turning(16, 1), make([]impl.Seen, 1<<20), 0)
	_, seeds := impl.SeedsBehind(1, 0, make([]int64, 1<<20))
	if behind || predicted || seeds {
		t.Error("a long list is accepted as outputs that are seen")
	}
}

func checkLongWalks(t *testing.T) {
	t.Helper()
	long := repeated(part(1, 1<<20), 1<<20)
	_, distance := impl.DistanceOf(long, long)
	_, greatest := impl.GreatestOf(long)
	_, collision := impl.CollisionOf(long)
	_, made := impl.ExtractBy([]int64{1}, long)
	_, rows := impl.ExtractBy(make([]int64, 1<<20), long[:2])
	_, average := impl.AverageDistance(1, long)
	_, _, best := impl.BestRows(1, long)
	if impl.IsSource(long) || distance || greatest || collision || made || rows || average || best {
		t.Error("a long list is accepted as chances or as rows")
	}
	right := impl.Walk{Rows: repeated(repeated(part(1, 2), 2), 2)}
	_, next := impl.StepWalk(right, long)
	_, after := impl.RunWalk(right, long, 30)
	for _, w := range []impl.Walk{{Rows: make([][]impl.Fraction, 1<<20)}, {Rows: [][]impl.Fraction{long}}, {Rows: [][]impl.Fraction{right.Rows[0], long}}} {
		_, step := impl.StepWalk(w, right.Rows[0])
		_, contraction := impl.ContractionOf(w)
		_, settled := impl.SettledOf(w)
		_, times := impl.HittingTimes(w, 0)
		_, mixed := impl.MixingSteps(w, part(1, 2))
		if impl.ValidWalk(w) || impl.IsReversible(w) || step || contraction || settled || times || mixed || next || after {
			t.Errorf("a walk with %d rows, or a long one, is accepted", len(w.Rows))
		}
	}
}

func checkLongPoints(t *testing.T) {
	t.Helper()
	long := make([]int64, 1<<20)
	for _, bits := range []int64{0, 6, 1 << 20} {
		for _, n := range []impl.Net{{Bits: bits, Matrices: [][]int64{long}}, {Bits: bits, Matrices: make([][]int64, 1<<20)}} {
			_, points := impl.NetPoints(n)
			_, quality := impl.QualityOf(n)
			_, scrambled := impl.ScrambleNet(n, 0, long)
			if impl.ValidNet(n) || points || quality || scrambled {
				t.Errorf("a net with %d matrices is accepted", len(n.Matrices))
			}
		}
		for _, list := range [][][]int64{repeated([]int64{0, 0}, 1<<20), {long}, {{0}, long}} {
			_, counts := impl.BoxCounts(list, bits, []int64{0, 0})
			_, wide := impl.BoxCounts(list, bits, long)
			_, shifted := impl.ShiftPoints(list, bits, long)
			_, distance := impl.StarDistance(list, bits)
			if impl.IsPoints(list, bits) || impl.IsEven(list, bits, []int64{0, 0}) || counts || wide || shifted || distance {
				t.Errorf("%d points are accepted", len(list))
			}
		}
	}
	right := [][]int64{{0, 0}}
	_, scrambled := impl.ScrambleNet(impl.Net{Bits: 1, Matrices: [][]int64{{1}}}, 0, long)
	_, counts := impl.BoxCounts(right, 6, long)
	_, shifted := impl.ShiftPoints(right, 6, long)
	_, halton := impl.HaltonPoint(1, repeated[int64](2, 1<<20))
	if scrambled || counts || shifted || halton || impl.IsEven(right, 6, long) {
		t.Error("a long list is accepted for a net, for points or as bases")
	}
}

func checkLongLabs(t *testing.T, long string) {
	t.Helper()
	right, names, streams := impl.Lab{}, repeated("x", 1<<20), make([]impl.Stream, 1<<20)
	for _, l := range []impl.Lab{{Names: names, Streams: streams}, {Names: names}, {Streams: streams}, {Names: []string{long}, Streams: streams[:1]}} {
		_, _, command := impl.LabCommand(l, "what")
		_, _, run := impl.RunLab(l, "")
		if impl.ValidLab(l) || command || run {
			t.Errorf("a lab with %d names and %d streams is accepted", len(l.Names), len(l.Streams))
		}
	}
	_, read := impl.ReadStream(long)
	_, _, run := impl.RunLab(right, long+"\n")
	_, many := impl.JournalOf(names)
	_, wide := impl.JournalOf([]string{long})
	_, _, recovered := impl.RecoverJournal(long)
	if read || run || many || wide || recovered {
		t.Errorf("a text with %d bytes is accepted", len(long))
	}
	if _, output, ok := impl.LabCommand(right, long); !ok || output != "what" {
		t.Error("LabCommand fails for a long line")
	}
}
