package tests

import (
	"fmt"
	"maps"
	"math"
	"regexp"
	"slices"
	"strconv"
	"strings"
	"testing"

	"loop.example/g01121/impl"
)

// slowLab is a lab that knows its streams by their names.
type slowLab map[string]impl.Stream

var (
	decimalForm = regexp.MustCompile(`^(0|-?[1-9][0-9]{0,15})$`)
	nameForm    = regexp.MustCompile(`^[a-z]{1,10}$`)
)

func slowNumber(word string) (int64, bool) {
	if !decimalForm.MatchString(word) {
		return 0, false
	}
	n, _ := strconv.ParseInt(word, 10, 64)
	return n, -maxValue <= n && n <= maxValue
}

// slowRead returns the stream with the given text.
func slowRead(text string) (impl.Stream, bool) {
	parts := strings.Split(text, ":")
	var numbers []int64
	for _, part := range parts[1:] {
		n, ok := slowNumber(part)
		if !ok || n < 0 {
			return impl.Stream{}, false
		}
		numbers = append(numbers, n)
	}
	switch {
	case parts[0] == "r" && len(numbers) == 3:
		end := int64(1) << min(numbers[0], 20)
		return ofRegister(impl.Register{Width: numbers[0], Taps: numbers[1]}, numbers[2]), numbers[0] <= 16 && numbers[1] < end && numbers[2] < end
	case parts[0] == "c" && len(numbers) == 4:
		end := numbers[0]
		return ofCongruence(impl.Congruence{Modulus: end, Factor: numbers[1], Add: numbers[2]}, numbers[3]), end >= 2 && end <= 100000 && max(numbers[1], numbers[2], numbers[3]) < end
	}
	return impl.Stream{}, false
}

func slowListText(list []int64) string {
	return strings.ReplaceAll(strings.Trim(fmt.Sprint(list), "[]"), " ", ",")
}

func slowFractionText(f impl.Fraction) string {
	return strings.TrimSuffix(fmt.Sprintf("%d/%d", f.Num, f.Den), "/1")
}

// put carries out a line that gives a name a stream.
func (l slowLab) put(name string, s impl.Stream, ok bool) string {
	_, used := l[name]
	if !ok || !nameForm.MatchString(name) || !used && len(l) == 6 {
		return "no"
	}
	l[name] = s
	return "ok"
}

// drawn carries out a line with a name and a number.
func (l slowLab) drawn(word, name, number string) string {
	s, ok := l[name]
	n, isNumber := slowNumber(number)
	if !ok || !isNumber || n < 0 {
		return "no"
	}
	output, behind, ok := slowOutput(word, s, n)
	if !ok {
		return "no"
	}
	l[name] = behind
	return output
}

// slowOutput returns what is said for a number, and the stream behind it.
func slowOutput(word string, s impl.Stream, n int64) (string, impl.Stream, bool) {
	switch word {
	case "bits":
		text, behind := slowTake(s, min(n, 401))
		if n == 0 {
			text = "none"
		}
		return text, behind, n <= 400
	case "skip":
		s.State = wayOf(s).after(n)
		return "ok", s, true
	case "roll":
		if n < 1 || n > 16 {
			return "", s, false
		}
		numbers, behind, ok := slowDrawn(s, []int64{n})
		return slowListText(numbers), behind, ok
	case "cards":
		if n < 1 || n > 12 {
			return "", s, false
		}
		choices, behind, ok := slowDrawn(s, reversed(valuesFrom(2, 1, int(n-1))))
		if !ok {
			return "", s, false
		}
		return slowListText(shufflers()[0].slow(n, choices)), behind, true
	}
	text, _ := slowTake(s, min(n, 51))
	levels, ok := impl.TestLevels(text)
	var texts []string
	for _, level := range levels {
		texts = append(texts, slowFractionText(level))
	}
	return strings.Join(texts, " "), s, ok
}

// answer carries out a line as the table of the document tells it.
func (l slowLab) answer(line string) string {
	words := strings.Split(line, " ")
	switch fmt.Sprint(words[0], len(words)) {
	case "set3":
		s, ok := slowRead(words[2])
		return l.put(words[1], s, ok)
	case "copy3":
		s, ok := l[words[2]]
		return l.put(words[1], s, ok)
	case "bits3", "skip3", "roll3", "cards3", "levels3":
		return l.drawn(words[0], words[1], words[2])
	case "drop2", "show2", "cycle2":
	default:
		return "what"
	}
	s, ok := l[words[1]]
	switch {
	case !ok:
		return "no"
	case words[0] == "drop":
		delete(l, words[1])
		return "ok"
	case words[0] == "show":
		return slowStreamText(s)
	}
	w := wayOf(s)
	return fmt.Sprint(w.before, w.cycle())
}

func (l slowLab) lab() impl.Lab {
	var lab impl.Lab
	for _, name := range slices.Sorted(maps.Keys(l)) {
		lab.Names = append(lab.Names, name)
		lab.Streams = append(lab.Streams, l[name])
	}
	return lab
}

func isLab(got, want impl.Lab) bool {
	return slices.Equal(got.Names, want.Names) && slices.Equal(got.Streams, want.Streams)
}

func expectLab(t *testing.T, what string, got impl.Lab, output string, ok bool, want impl.Lab, said string) {
	t.Helper()
	if !ok || output != said || !isLab(got, want) {
		t.Errorf("%s: got %v, %q and %v, want %v and %q", what, got, output, ok, want, said)
	}
}

func expectNoLab(t *testing.T, what string, got impl.Lab, output string, ok bool) {
	t.Helper()
	if ok || output != "" || !isLab(got, impl.Lab{}) {
		t.Errorf("%s: got %v, %q and %v, want it to fail", what, got, output, ok)
	}
}

// exampleLab has a stream of each kind, one that outputs 1 in each step, and one
// that does so behind its first step.
func exampleLab() impl.Lab {
	r, c := exampleStreams()
	return impl.Lab{Names: []string{"late", "ones", "x", "y"}, Streams: []impl.Stream{lateOnes(), endlessOnes()[0], r, c}}
}

// fullLab has as many streams as a lab can have.
func fullLab() impl.Lab {
	_, c := exampleStreams()
	return impl.Lab{Names: []string{"a", "b", "c", "d", "e", "f"}, Streams: slices.Repeat([]impl.Stream{c}, 6)}
}

// wrongLabs returns labs that are not valid, each for one reason.
func wrongLabs() []impl.Lab {
	r, c := exampleStreams()
	wrong := c
	wrong.State = 10
	list := []impl.Lab{
		{Names: []string{"a", "b", "c", "d", "e", "f", "g"}, Streams: slices.Repeat([]impl.Stream{c}, 7)},
		{Names: []string{"a", "b", "c", "d", "e", "f", "g"}, Streams: slices.Repeat([]impl.Stream{c}, 6)},
		{Names: []string{"a", "b", "c", "d", "e", "f"}, Streams: slices.Repeat([]impl.Stream{c}, 7)},
		{Names: []string{"a"}}, {Streams: []impl.Stream{r}}, {Streams: []impl.Stream{{}}}, {Names: []string{""}},
		{Names: []string{"a", "b"}, Streams: []impl.Stream{r}}, {Names: []string{"a"}, Streams: []impl.Stream{r, c}},
		{Names: []string{"a", "a"}, Streams: []impl.Stream{r, c}}, {Names: []string{"b", "a"}, Streams: []impl.Stream{r, c}},
		{Names: []string{"ab", "a"}, Streams: []impl.Stream{r, c}}, {Names: []string{"a", "c", "b"}, Streams: []impl.Stream{r, c, c}},
	}
	for _, name := range []string{"", "A", "a1", "abcdefghijk", "a b", " a", "a ", "é", "\xff", "a\n", "-"} {
		list = append(list, impl.Lab{Names: []string{name}, Streams: []impl.Stream{r}}, impl.Lab{Names: slices.Sorted(slices.Values([]string{name, "m"})), Streams: []impl.Stream{r, c}})
	}
	list = append(list, impl.Lab{Names: []string{"a"}, Streams: []impl.Stream{wrong}}, impl.Lab{Names: []string{"a", "b", "c"}, Streams: []impl.Stream{r, c, wrong}})
	for _, s := range wrongStreams() {
		list = append(list, impl.Lab{Names: []string{"a", "b"}, Streams: []impl.Stream{s, r}})
	}
	return list
}

func TestValidLabs(t *testing.T) {
	r, c := exampleStreams()
	for _, l := range []impl.Lab{
		{}, {Names: []string{}, Streams: []impl.Stream{}}, exampleLab(), fullLab(), {Names: []string{"a"}, Streams: []impl.Stream{{}}},
		{Names: []string{"abcdefghij", "b"}, Streams: []impl.Stream{r, c}}, {Names: []string{"a", "aa", "zzzzzzzzzz"}, Streams: []impl.Stream{c, c, r}},
	} {
		if !impl.ValidLab(l) {
			t.Errorf("%v is not valid", l)
		}
	}
	for _, l := range wrongLabs() {
		if impl.ValidLab(l) {
			t.Errorf("%v is valid", l)
		}
	}
}

func TestWrongLabsFail(t *testing.T) {
	for _, l := range wrongLabs() {
		for _, line := range []string{"", "what", "show a", "bits a 3", "drop a", "set a r:3:3:1", "copy b a"} {
			got, output, ok := impl.LabCommand(l, line)
			expectNoLab(t, fmt.Sprintf("LabCommand %v %q", l, line), got, output, ok)
			got, output, ok = impl.RunLab(l, line+"\n")
			expectNoLab(t, fmt.Sprintf("RunLab %v %q", l, line), got, output, ok)
		}
		got, output, ok := impl.RunLab(l, "")
		expectNoLab(t, fmt.Sprintf("RunLab %v", l), got, output, ok)
	}
}

// expectAnswer carries out a line, alone and as a script, and requires the same
// of the slow lab.
func expectAnswer(t *testing.T, l impl.Lab, line, said string, want impl.Lab) {
	t.Helper()
	got, output, ok := impl.LabCommand(l, line)
	expectLab(t, fmt.Sprintf("LabCommand %q", line), got, output, ok, want, said)
	if !strings.Contains(line, "\n") {
		got, output, ok = impl.RunLab(l, line+"\n")
		expectLab(t, fmt.Sprintf("RunLab %q", line), got, output, ok, want, said+"\n")
	}
	slow := slowLab{}
	for i, name := range l.Names {
		slow[name] = l.Streams[i]
	}
	if told := slow.answer(line); told != said || !isLab(slow.lab(), want) {
		t.Errorf("the slow lab says %q for %q", told, line)
	}
}

// withStream returns a lab in which a name has the stream with a text.
func withStream(l impl.Lab, name, text string) impl.Lab {
	s, _ := slowRead(text)
	slow := slowLab{name: s}
	for i, other := range l.Names {
		if other != name {
			slow[other] = l.Streams[i]
		}
	}
	return slow.lab()
}

// Promise 13, as the document's examples and their generators tell it.
func TestLinesThatChange(t *testing.T) {
	for _, c := range []struct{ line, output, name, text string }{
		{"set x c:2:1:1:1", "ok", "x", "c:2:1:1:1"}, {"set new r:0:0:0", "ok", "new", "r:0:0:0"}, {"set a r:3:3:1", "ok", "a", "r:3:3:1"}, {"set zzzzzzzzzz r:3:3:1", "ok", "zzzzzzzzzz", "r:3:3:1"},
		{"copy x y", "ok", "x", "c:10:3:1:0"}, {"copy m y", "ok", "m", "c:10:3:1:0"}, {"copy set x", "ok", "set", "r:3:3:1"}, {"set drop r:3:3:1", "ok", "drop", "r:3:3:1"},
		{"bits x 3", "100", "x", "r:3:3:5"}, {"bits x 7", "1001011", "x", "r:3:3:1"}, {"bits y 1", "0", "y", "c:10:3:1:1"}, {"bits y 4", "0000", "y", "c:10:3:1:0"},
		{"bits late 400", "0" + strings.Repeat("1", 399), "late", "r:2:2:3"}, {"skip x 1", "ok", "x", "r:3:3:4"}, {"skip y 2", "ok", "y", "c:10:3:1:4"}, {"skip late 1000000000000000", "ok", "late", "r:2:2:3"},
		{"roll x 2", "1", "x", "r:3:3:4"}, {"roll x 3", "2", "x", "r:3:3:2"}, {"roll y 16", "0", "y", "c:10:3:1:0"}, {"roll late 3", "1", "late", "r:2:2:3"},
		{"cards x 2", "0,1", "x", "r:3:3:4"}, {"cards late 3", "0,2,1", "late", "r:2:2:3"}, {"cards late 2", "1,0", "late", "r:2:2:3"},
	} {
		expectAnswer(t, exampleLab(), c.line, c.output, withStream(exampleLab(), c.name, c.text))
	}
}

func TestLinesThatChangeNothing(t *testing.T) {
	for line, output := range map[string]string{
		"set x r:3:3:1": "ok", "copy x x": "ok", "bits x 0": "none", "bits y 0": "none", "skip x 0": "ok", "skip x 7": "ok", "skip y 400": "ok", "roll x 1": "0", "cards y 1": "0",
		"show x": "r:3:3:1", "show y": "c:10:3:1:0", "show late": "r:2:2:2", "cycle x": "0 7", "cycle y": "0 4", "cycle late": "1 1", "cycle ones": "0 1",
		"levels x 2": "1 1 1", "levels y 2": "1/2 1 1", "levels ones 3": "1/4 1/2 1/2", "levels x 1": "1 1 1", "roll ones 1": "0",
	} {
		expectAnswer(t, exampleLab(), line, output, exampleLab())
	}
	expectAnswer(t, exampleLab(), "levels ones 50", "1/562949953421312 1/281474976710656 1/281474976710656", exampleLab())
}

func TestRefusedLines(t *testing.T) {
	for _, line := range []string{
		"set q r:3:3:8", "set x r:3:3:8", "set q r:3:3", "set q ", "set q x", "set q c:1:0:0:0", "set Q r:3:3:1", "set  r:3:3:1", "set abcdefghijk r:3:3:1", "set q1 r:3:3:1", "set é r:3:3:1", "set q r:3:3:1\n",
		"copy q z", "copy q ", "copy x q", "copy  x", "copy Q x", "copy abcdefghijk x", "copy q X", "copy q1 x", "copy  ",
		"drop q", "drop ", "drop X", "drop xx", "drop late\n", "show q", "show ", "show X", "show x\t", "cycle q", "cycle ", "cycle Y",
		"bits q 1", "bits  1", "bits x ", "bits x 401", "bits x -1", "bits x -0", "bits x 01", "bits x +1", "bits x one", "bits x 1.0", "bits x 1,2", "bits x 9223372036854775808", "bits X 1", "bits 1 x", "bits  ", "bits x x",
		"skip q 1", "skip x -1", "skip x ", "skip x 1000000000000001", "skip x 1000000000000000000", "skip x 00", "skip x 1e3", "skip  1",
		"roll q 2", "roll x 0", "roll x 17", "roll x -1", "roll x ", "roll ones 3", "roll ones 15", "roll x 02", "roll  2",
		"cards q 2", "cards x 0", "cards x 13", "cards x -1", "cards x ", "cards ones 3", "cards late 4", "cards x 02", "cards  2",
		"levels q 2", "levels x 0", "levels x 51", "levels x 400", "levels x -1", "levels x ", "levels x 02", "levels  2",
	} {
		expectAnswer(t, exampleLab(), line, "no", exampleLab())
	}
}

func TestLinesThatAreNone(t *testing.T) {
	for _, line := range []string{
		"", " ", "  ", "   ", "\n", "\t", "what", "no", "ok", "fly", "fly x", "fly x 1", "x", "x 1", "x x", "\xff", "\x00", "é x 1",
		"set", "set ", "set q", "set q r:3:3:1 ", " set q r:3:3:1", "set q  r:3:3:1", "set  q r:3:3:1", "set q r:3:3:1 1", "set q r 3 3 1", "Set q r:3:3:1", "SET q r:3:3:1", "sets q r:3:3:1", "se q r:3:3:1", "set\tq\tr:3:3:1", "set:q:r",
		"copy", "copy ", "copy q", "copy q x ", " copy q x", "copy q  x", "copy  q x", "copy q x x", "COPY q x", "Copy q x",
		"drop", "drop x ", " drop x", "drop  x", "drop x y", "drop x x", "Drop x", "DROP x", "drop x 1",
		"bits", "bits ", "bits x", "bits x 1 ", " bits x 1", "bits  x 1", "bits x  1", "bits x 1 1", "Bits x 1", "BITS x 1", "bit x 1",
		"skip", "skip x", "skip x 1 ", " skip x 1", "skip x  1", "skip x 1 1", "SKIP x 1", "roll", "roll x", "roll x 2 ", " roll x 2", "roll x  2", "roll x 2 1", "ROLL x 2",
		"cards", "cards x", "cards x 2 ", " cards x 2", "cards x  2", "cards x 2 2", "CARDS x 2", "card x 2", "levels", "levels x", "levels x 2 ", " levels x 2", "levels x  2", "levels x 2 2", "LEVELS x 2", "level x 2",
		"show", "show x ", " show x", "show  x", "show x x", "show x 1", "SHOW x", "cycle", "cycle x ", " cycle x", "cycle  x", "cycle x y", "cycle x 1", "CYCLE x",
		strings.Repeat("show ", 700), strings.Repeat(" ", 3000), strings.Repeat("x", 3000),
	} {
		expectAnswer(t, exampleLab(), line, "what", exampleLab())
	}
	long := strings.Repeat("show x ", 1<<17)
	got, output, ok := impl.LabCommand(exampleLab(), long)
	expectLab(t, "LabCommand with a long line", got, output, ok, exampleLab(), "what")
}

func TestFullLabs(t *testing.T) {
	for _, line := range []string{"set g c:10:3:1:0", "copy g a", "set aa c:10:3:1:0", "copy zz f", "copy A a", "set  r:3:3:1"} {
		expectAnswer(t, fullLab(), line, "no", fullLab())
	}
	for _, name := range fullLab().Names {
		expectAnswer(t, fullLab(), "set "+name+" r:3:3:1", "ok", withStream(fullLab(), name, "r:3:3:1"))
		expectAnswer(t, withStream(fullLab(), "d", "r:3:3:1"), "copy "+name+" d", "ok", withStream(withStream(fullLab(), "d", "r:3:3:1"), name, "r:3:3:1"))
	}
}

func TestNamesComeAndGo(t *testing.T) {
	for i, name := range fullLab().Names {
		full := withStream(fullLab(), name, "r:3:3:1")
		less := impl.Lab{Names: slices.Delete(fullLab().Names, i, i+1), Streams: fullLab().Streams[:5]}
		expectAnswer(t, full, "drop "+name, "ok", less)
		expectAnswer(t, less, "drop "+name, "no", less)
		expectAnswer(t, less, "set "+name+" r:3:3:1", "ok", full)
		expectAnswer(t, less, "copy "+name+" "+less.Names[2], "ok", fullLab())
	}
	r, _ := exampleStreams()
	one := impl.Lab{Names: []string{"x"}, Streams: []impl.Stream{r}}
	expectAnswer(t, one, "drop x", "ok", impl.Lab{})
	expectAnswer(t, impl.Lab{}, "set x r:3:3:1", "ok", one)
	expectAnswer(t, impl.Lab{}, "drop x", "no", impl.Lab{})
	expectAnswer(t, impl.Lab{}, "", "what", impl.Lab{})
}

func TestScripts(t *testing.T) {
	r, _ := exampleStreams()
	one := impl.Lab{Names: []string{"x"}, Streams: []impl.Stream{r}}
	for script, outputs := range map[string]string{
		"": "", "\n": "what\n", "\n\n": "what\nwhat\n", "show x\n": "r:3:3:1\n", "show x\n\nshow x\n": "r:3:3:1\nwhat\nr:3:3:1\n", "show x\r\n": "no\n", "\r\n": "what\n", " \n": "what\n", "show x\x00\n": "no\n",
		strings.Repeat("\n", 4000): strings.Repeat("what\n", 4000), strings.Repeat("x", 3999) + "\n": "what\n", "drop " + strings.Repeat("x", 3994) + "\n": "no\n",
		strings.Repeat("roll x 1\n", 444) + "\n\n\n\n": strings.Repeat("0\n", 444) + strings.Repeat("what\n", 4),
	} {
		got, output, ok := impl.RunLab(one, script)
		expectLab(t, fmt.Sprintf("RunLab %q", script), got, output, ok, one, outputs)
	}
	for _, script := range []string{
		"x", " ", "show x", "show x\n ", "show x\nshow x", "\nx", "\r", "drop x", "drop x\nset y r:3:3:1", "\x00", "show x\n\x00",
		strings.Repeat("\n", 4001), strings.Repeat("x", 4000) + "\n", strings.Repeat("show x\n", 1<<16), strings.Repeat("x", 4000), strings.Repeat("\n", 3999) + "x", strings.Repeat("\n", 1<<20),
	} {
		got, output, ok := impl.RunLab(one, script)
		expectNoLab(t, fmt.Sprintf("RunLab %.40q", script), got, output, ok)
	}
}

// pick draws a word, so that those in front come more often.
func pick(d *draws, words ...string) string {
	count := int64(len(words))
	return words[min(d.below(count), d.below(count), d.below(count))]
}

func drawnName(d *draws) string {
	return pick(d, "x", "y", "a", "b", "zz", "abcdefghij", "m", "n", "o", "", "X", "abcdefghijk", "a1")
}

func drawnText(d *draws) string {
	return pick(d, "r:3:3:1", "c:10:3:1:0", "r:2:2:2", "r:1:1:1", "r:8:45:77", "c:100:21:3:5", "c:64:2:1:7", "c:2:1:1:0", "r:0:0:0", "r:3:3:8", "c:10:3:1:10", "r:3:3", "x", "", "R:3:3:1")
}

func drawnCount(d *draws) string {
	return pick(d, "2", "3", "1", "6", "7", "12", "4", "0", "16", "50", "400", "1000000000000000", "13", "17", "51", "401", "-1", "01", "-0", "1000000000000001", "x", "")
}

func drawnLine(d *draws) string {
	word := pick(d, "set", "bits", "copy", "roll", "cards", "skip", "levels", "show", "cycle", "drop", "what", "", "SHOW")
	words := []string{word, drawnName(d)}
	switch word {
	case "set":
		words = append(words, drawnText(d))
	case "copy":
		words = append(words, drawnName(d))
	case "show", "cycle", "drop":
	default:
		words = append(words, drawnCount(d))
	}
	if d.below(30) == 0 {
		words = append(words, drawnName(d))
	}
	if d.below(30) == 0 {
		words = words[:d.below(int64(len(words)))+1]
	}
	return strings.Join(words, " ")
}

// Promise 13: what a lab outputs is what the slow lab outputs, line by line and
// for the script of all lines.
func TestDrawnScripts(t *testing.T) {
	d := draws(1111)
	said, full := map[string]int{}, 0
	for range 400 {
		slow, now, script, outputs := slowLab{}, impl.Lab{}, "", ""
		for range 60 {
			line := drawnLine(&d)
			want := slow.answer(line)
			next, output, ok := impl.LabCommand(now, line)
			expectLab(t, fmt.Sprintf("LabCommand %v %q", now, line), next, output, ok, slow.lab(), want)
			now, script, outputs = next, script+line+"\n", outputs+want+"\n"
			said[want]++
			if len(slow) == 6 {
				full++
			}
		}
		last, output, ok := impl.RunLab(impl.Lab{}, script)
		expectLab(t, fmt.Sprintf("RunLab %q", script), last, output, ok, slow.lab(), outputs)
	}
	if said["ok"] < 1000 || said["no"] < 1000 || said["what"] < 500 || len(said) < 300 || full < 500 {
		t.Errorf("ok, no and what are said %d, %d and %d times, %d outputs are different, and %d labs are full", said["ok"], said["no"], said["what"], len(said), full)
	}
}

// Promise 13: lines with big streams say what the functions of their chapters
// return.
func TestLinesOfBigStreams(t *testing.T) {
	for i, s := range bigStreams() {
		if i%4 != 0 {
			continue
		}
		l := impl.Lab{Names: []string{"big"}, Streams: []impl.Stream{s}}
		slow := slowLab{"big": s}
		for _, line := range []string{"bits big 400", "skip big 999999999999999", "roll big 13", "cards big 12", "levels big 50", "cycle big", "show big"} {
			want := slow.answer(line)
			next, output, ok := impl.LabCommand(l, line)
			expectLab(t, fmt.Sprintf("LabCommand %v %q", l, line), next, output, ok, slow.lab(), want)
			l = next
		}
	}
}

// A result has memory of its own: carrying out lines at it changes neither the
// lab before nor another result.
func TestLabsOfTheirOwn(t *testing.T) {
	before := exampleLab()
	before.Names = append(make([]string, 0, 9), before.Names...)
	before.Streams = append(make([]impl.Stream, 0, 9), before.Streams...)
	first, _, _ := impl.LabCommand(before, "what")
	second, _, _ := impl.RunLab(before, "set a r:3:3:1\nbits x 3\ndrop late\n")
	for _, l := range []impl.Lab{first, second} {
		for i := range l.Names {
			l.Names[i], l.Streams[i] = "spoiled", impl.Stream{Kind: math.MaxInt64}
		}
	}
	third, _, _ := impl.LabCommand(before, "bits y 1")
	if !isLab(before, exampleLab()) || !isLab(third, withStream(exampleLab(), "y", "c:10:3:1:1")) {
		t.Errorf("the lab has become %v, and behind a line %v", before, third)
	}
	for i := range 5 {
		if before.Names[4:9][i] != "" || before.Streams[4:9][i] != (impl.Stream{}) {
			t.Errorf("the unused capacity of the lab has been changed: %v, %v", before.Names[:9], before.Streams[:9])
		}
	}
}
