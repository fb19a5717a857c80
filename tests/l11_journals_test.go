package tests

import (
	"fmt"
	"slices"
	"strings"
	"testing"

	"loop.example/g01121/impl"
)

// slowJournal writes line by line, with check numbers counted byte by byte.
func slowJournal(lines []string) string {
	journal, check := "", int64(0)
	for _, line := range lines {
		for i := range len(line) {
			check = (4099*check + int64(line[i]) + 1) % 999983
		}
		journal += fmt.Sprint(check) + " " + line + "\n"
	}
	return journal
}

// slowRecover tries all numbers of lines whose journal a text can begin with:
// what is behind the first blank of each row of the text.
func slowRecover(text string) ([]string, int64) {
	var lines, best []string
	length := 0
	rows := strings.SplitAfter(text, "\n")
	for _, row := range rows {
		_, line, _ := strings.Cut(strings.TrimSuffix(row, "\n"), " ")
		lines = append(lines, line)
		if journal := slowJournal(lines); strings.HasPrefix(text, journal) {
			best, length = slices.Clone(lines), len(journal)
		}
	}
	return best, int64(length)
}

func expectLines(t *testing.T, text string, lines []string, length int64) {
	t.Helper()
	got, n, ok := impl.RecoverJournal(text)
	if !ok || n != length || !slices.Equal(got, lines) {
		t.Errorf("RecoverJournal %.80q: got %.80q, %d and %v, want %.80q and %d", text, got, n, ok, lines, length)
	}
}

// expectRecovered requires what the slow way finds in a text.
func expectRecovered(t *testing.T, text string) []string {
	t.Helper()
	lines, length := slowRecover(text)
	expectLines(t, text, lines, length)
	return lines
}

// someJournals returns lines of labs and of other kinds: empty ones, equal
// ones, some with blanks and numbers at their ends, and some with any bytes.
func someJournals() [][]string {
	all := ""
	for b := range 256 {
		if b != '\n' {
			all += string([]byte{byte(b)})
		}
	}
	d := draws(1121)
	list := [][]string{
		nil, {""}, {"a"}, {"a", ""}, {"", "", ""}, {"a", "a", "a"}, {" "}, {" a", "a ", "  "}, {"0 ", "98 a"}, {all}, {all, "", all}, {"\r", "\x00", "\xff", "é"},
		{"set x r:3:3:1", "bits x 3", "roll x 6", "show x", "", "cards x 12", "drop x"}, {"98 a", "98 a", "1"},
	}
	for range 12 {
		var lines []string
		for range d.below(12) {
			lines = append(lines, drawnLine(&d))
		}
		list = append(list, lines)
	}
	return list
}

func TestJournalExamples(t *testing.T) {
	for _, c := range []struct {
		lines []string
		want  string
	}{
		{nil, ""}, {[]string{""}, "0 \n"}, {[]string{"", ""}, "0 \n0 \n"}, {[]string{"a"}, "98 a\n"}, {[]string{"a", ""}, "98 a\n98 \n"},
		{[]string{"a", "a"}, fmt.Sprintf("98 a\n%d a\n", 4099*98+98)}, {[]string{"\x00"}, "1 \x00\n"}, {[]string{" "}, "33  \n"},
	} {
		journal, ok := impl.JournalOf(c.lines)
		expect(t, fmt.Sprintf("JournalOf %q", c.lines), journal, ok, c.want)
		expectLines(t, c.want, c.lines, int64(len(c.want)))
	}
}

func TestJournals(t *testing.T) {
	for _, lines := range someJournals() {
		want := slowJournal(lines)
		journal, ok := impl.JournalOf(lines)
		expect(t, fmt.Sprintf("JournalOf %q", lines), journal, ok, want)
		expectLines(t, want, lines, int64(len(want)))
		expectLines(t, want+"x", lines, int64(len(want)))
		expectLines(t, want+"\n", lines, int64(len(want)))
		// A journal does not begin again: its check numbers go on.
		if len(lines) > 0 && lines[0] != "" {
			expectLines(t, want+want, lines, int64(len(want)))
		}
	}
}

// Promise 12: of a text that is cut, the lines that are whole are recovered.
func TestCutJournals(t *testing.T) {
	for _, lines := range someJournals() {
		journal := slowJournal(lines)
		for end := range len(journal) {
			cut := journal[:end]
			expectLines(t, cut, lines[:strings.Count(cut, "\n")], int64(strings.LastIndex(cut, "\n")+1))
		}
	}
}

// Promise 12: if a byte is another one, the lines before its row are recovered.
func TestChangedJournals(t *testing.T) {
	for _, lines := range someJournals() {
		journal := slowJournal(lines)
		for at := range len(journal) {
			intact := strings.Count(journal[:at], "\n")
			for _, other := range []byte{0, '\n', ' ', '+', '-', '0', '1', '9', 'a', journal[at] + 1, journal[at] ^ 128} {
				if other == journal[at] {
					continue
				}
				changed := journal[:at] + string([]byte{other}) + journal[at+1:]
				if found := expectRecovered(t, changed); len(found) != intact {
					t.Errorf("%d lines of %q are recovered, want %d", len(found), changed, intact)
				}
			}
			// A byte that is lost or comes twice may leave the text as it is.
			expectRecovered(t, journal[:at]+journal[at+1:])
			expectRecovered(t, journal[:at+1]+journal[at:])
		}
	}
}

func TestTextsOfNoJournals(t *testing.T) {
	for _, text := range []string{
		"", "\n", " \n", "98", "98 ", "98 a", "98a\n", " 98 a\n", "98  a\n", "97 a\n", "99 a\n", "098 a\n", "+98 a\n", "-98 a\n", "98. a\n", "98,a\n", "98\ta\n", "98 b\n", "98 A\n", "98 a \n", "98 a\r\n", "98 a\x00\n", "1000081 a\n", "0x62 a\n", "９8 a\n",
		"00 \n", "-0 \n", "+0 \n", "0\n", "0  \n", "a\n", "\x00\n", "98 a98 \n", "98\na\n", "none", "a 98\n",
	} {
		expectLines(t, text, nil, 0)
	}
	for _, text := range []string{"98 a\n098 \n", "98 a\n+98 \n", "98 a\n-98 \n", "98 a\n98\n", "98 a\n98  \n", "98 a\n98 ", "98 a\n\n98 \n", "98 a\n0 \n", "98 a\n98 a\n", "98 a\n97 \n", "98 a\n 98 \n", "98 a\n999983 \n"} {
		expectLines(t, text, []string{"a"}, 5)
	}
}

func TestJournalLimits(t *testing.T) {
	// Rows of empty lines have three bytes, so that one more byte is left for
	// the last line.
	short := slices.Repeat([]string{""}, 1332)
	for _, c := range []struct {
		lines []string
		fits  bool
	}{
		{slices.Repeat([]string{""}, 1333), true}, {slices.Repeat([]string{""}, 1334), false}, {append(slices.Clone(short), "\x00"), true}, {append(slices.Clone(short), "\x00\x00"), false},
		{[]string{strings.Repeat("a", 3980)}, true}, {[]string{strings.Repeat("a", 4000)}, false}, {[]string{strings.Repeat("a", 4001)}, false}, {[]string{strings.Repeat("a", 1<<20)}, false}, {make([]string, 1<<20), false},
	} {
		want := ""
		if c.fits {
			want = slowJournal(c.lines)
		}
		journal, ok := impl.JournalOf(c.lines)
		if ok != c.fits || journal != want {
			t.Errorf("JournalOf %d lines: got %d bytes and %v", len(c.lines), len(journal), ok)
		}
	}
	checkLongestLines(t)
	for _, length := range []int{4001, 4002, 1 << 20} {
		lines, n, ok := impl.RecoverJournal(strings.Repeat("0 \n", length/3) + strings.Repeat("x", length%3))
		if ok || n != 0 || len(lines) != 0 {
			t.Errorf("RecoverJournal %d bytes: got %d lines, %d and %v", length, len(lines), n, ok)
		}
	}
	expectLines(t, strings.Repeat("0 \n", 1333)+"x", slices.Repeat([]string{""}, 1333), 3999)
	expectLines(t, strings.Repeat("\n", 4000), nil, 0)
	expectLines(t, strings.Repeat("9", 4000), nil, 0)
}

// checkLongestLines looks for the longest line whose journal fits.
func checkLongestLines(t *testing.T) {
	t.Helper()
	exact := 0
	for count := 3980; count <= 4001; count++ {
		line := strings.Repeat("z", count)
		want := slowJournal([]string{line})
		journal, ok := impl.JournalOf([]string{line})
		if len(want) > 4000 {
			expectFail(t, fmt.Sprint("JournalOf a line of ", count), journal, ok)
			continue
		}
		expect(t, fmt.Sprint("JournalOf a line of ", count), journal, ok, want)
		expectLines(t, journal, []string{line}, int64(len(journal)))
		if len(want) == 4000 {
			exact++
		}
	}
	if exact != 1 {
		t.Errorf("%d journals have exactly as many bytes as they can have", exact)
	}
}

func TestLinesWithNewlines(t *testing.T) {
	for _, lines := range [][]string{{"\n"}, {"a\nb"}, {"a\n"}, {"\na"}, {"a", "b", "c\n"}, {"\n", "a"}, {"a", "\n", "b"}, {"\r\n"}, {strings.Repeat("a", 5000) + "\n"}} {
		journal, ok := impl.JournalOf(lines)
		expectFail(t, fmt.Sprintf("JournalOf %.40q", lines), journal, ok)
	}
}

// Promises 12 and 13: the lines that are recovered from a journal lead to the
// same lab and the same outputs once more.
func TestReplayedJournals(t *testing.T) {
	d := draws(1122)
	for range 100 {
		var lines []string
		for range 40 {
			lines = append(lines, drawnLine(&d))
		}
		journal, ok := impl.JournalOf(lines)
		found, _, _ := impl.RecoverJournal(journal)
		first, outputs, _ := impl.RunLab(impl.Lab{}, strings.Join(lines, "\n")+"\n")
		again, same, replayed := impl.RunLab(impl.Lab{}, strings.Join(found, "\n")+"\n")
		expectLab(t, "a replay", again, same, ok && replayed, first, outputs)
	}
}
