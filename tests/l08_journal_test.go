package tests

import (
	"fmt"
	"slices"
	"strings"
	"testing"

	"loop.example/g01358/impl"
)

// someLines are lines of a journal: some that are done, and some of no form.
func someLines() []string {
	return []string{"degree", "slope", "", "a none", " ", "sign 3 2", "x\x00\xff\r", "12 degree", "swap", "points 3f80000000000000", "\u00e9", "swap"}
}

func TestJournalOf(t *testing.T) {
	for n := range len(someLines()) + 1 {
		lines := someLines()[:n]
		got, ok := impl.JournalOf(lines)
		wantText(t, plain("JournalOf ", lines), got, ok, journalOf(lines...))
	}
	got, ok := impl.JournalOf([]string{"a", "b"})
	// 97 + 181 is 278; 911 times 278, plus 98 + 181, is 253537, and leaves 58528.
	wantText(t, "JournalOf", got, ok, "278 a\n58528 b\n")
	got, ok = impl.JournalOf([]string{"", "", "a"})
	wantText(t, "JournalOf empty lines", got, ok, "0 \n0 \n278 a\n")
	got, ok = impl.JournalOf(nil)
	wantText(t, "JournalOf none", got, ok, "")
	got, ok = impl.JournalOf([]string{})
	wantText(t, "JournalOf none", got, ok, "")
	for _, line := range []string{"\n", "a\n", "\na", "a\nb", "\n\n", "degree\n"} {
		for _, lines := range [][]string{{line}, {line, "a"}, {"a", line}, {"", line, ""}, {"a", "b", line}} {
			got, ok := impl.JournalOf(lines)
			wantNoText(t, plain("JournalOf ", lines), got, ok)
		}
	}
}

// longJournals have journals of MaxScript bytes.
func longJournals() [][]string {
	long := [][]string{}
	for _, lines := range [][]string{nil, append([]string{"x"}, repeated("", 3190)...), repeated("degree", 1200), append(someLines(), someLines()...)} {
		// The check number of the last line has five digits for most letters.
		room := impl.MaxScript - len(journalOf(lines...)) - len("12345 \n")
		for letter := 'a'; ; letter++ {
			full := append(slices.Clone(lines), strings.Repeat(string(letter), room))
			if len(journalOf(full...)) == impl.MaxScript {
				long = append(long, full)
				break
			}
		}
	}
	return long
}

func TestLongJournals(t *testing.T) {
	for _, lines := range longJournals() {
		journal := journalOf(lines...)
		got, ok := impl.JournalOf(lines)
		wantText(t, "JournalOf", got, ok, journal)
		recovered, size, ok := impl.RecoverJournal(journal)
		wantLines(t, "RecoverJournal of MaxScript bytes", recovered, size, ok, lines)
		_, count, ok := impl.RunJournal(newDesk(), journal)
		wantInteger(t, "RunJournal of MaxScript bytes", count, ok, int64(len(lines)))
		for _, more := range []string{"y", "yy", "yyyyyyyy", strings.Repeat("y", 20000)} {
			last := slices.Clone(lines)
			last[len(last)-1] += more
			// Another check number can be shorter.
			if len(journalOf(last...)) > impl.MaxScript {
				got, ok = impl.JournalOf(last)
				wantNoText(t, "JournalOf a long line", got, ok)
			}
			recovered, size, ok = impl.RecoverJournal(journal + more)
			wantNoLines(t, "RecoverJournal of more than MaxScript bytes", recovered, size, ok)
			d, count, ok := impl.RunJournal(newDesk(), journal+more)
			wantNoDesk(t, "RunJournal of more than MaxScript bytes", d, ok)
			wantNoInteger(t, "RunJournal of more than MaxScript bytes", count, ok)
		}
		got, ok = impl.JournalOf(append(slices.Clone(lines), ""))
		wantNoText(t, "JournalOf one line more", got, ok)
	}
	got, ok := impl.JournalOf(repeated("", impl.MaxScript/3))
	wantText(t, "JournalOf", got, ok, strings.Repeat("0 \n", impl.MaxScript/3))
	got, ok = impl.JournalOf(repeated("", impl.MaxScript/3+1))
	wantNoText(t, "JournalOf", got, ok)
	got, ok = impl.JournalOf(repeated("degree", 100000))
	wantNoText(t, "JournalOf", got, ok)
}

func wantLines(t *testing.T, what string, got []string, size int64, ok bool, want []string) {
	t.Helper()
	if bytes := int64(len(journalOf(want...))); !ok || !slices.Equal(got, want) || size != bytes {
		t.Errorf("%s: got %.300q, %d, %v, want %.300q, %d", what, got, size, ok, want, bytes)
	}
}

func wantNoLines(t *testing.T, what string, got []string, size int64, ok bool) {
	t.Helper()
	if ok || len(got) != 0 || size != 0 {
		t.Errorf("%s: got %.300q, %d, %v, but it must fail", what, got, size, ok)
	}
}

func TestRecoverJournal(t *testing.T) {
	for n := range len(someLines()) + 1 {
		lines := someLines()[:n]
		journal := journalOf(lines...)
		for _, behind := range []string{"", "\n", "0", "0 ", " \n", "x", "0 \nx", "12 degree\n", "0 degree\n", "\x00", "\xff\n", "degree\n", " degree\n", "\n\n", strings.Repeat("9", 30) + " degree\n", "999999\n", " "} {
			want := lines
			if n == 0 && strings.HasPrefix(behind, "0 \n") {
				want = []string{""}
			}
			got, size, ok := impl.RecoverJournal(journal + behind)
			wantLines(t, fmt.Sprintf("RecoverJournal of %q and %q", journal, behind), got, size, ok, want)
			after, count, ok := impl.RunJournal(newDesk(), journal+behind)
			wantInteger(t, "RunJournal", count, ok, int64(len(want)))
			wantDesk(t, "RunJournal", after, ok, behindAll(newDesk(), want))
		}
		if n > 0 {
			got, size, ok := impl.RecoverJournal("x" + journal)
			wantLines(t, fmt.Sprintf("RecoverJournal behind x of %q", journal), got, size, ok, nil)
		}
	}
	for _, text := range strangeTexts() {
		got, size, ok := impl.RecoverJournal(text)
		wantLines(t, fmt.Sprintf("RecoverJournal of %q", text), got, size, ok, nil)
	}
}

// behindAll is the desk behind lines that are carried out one by one.
func behindAll(d impl.Desk, lines []string) impl.Desk {
	for _, line := range lines {
		d, _, _ = impl.DeskCommand(d, line)
	}
	return d
}

// TestCutAndBentJournals has all places of a journal.
func TestCutAndBentJournals(t *testing.T) {
	lines := someLines()
	journal, ends := journalOf(lines...), []int{}
	for n := range lines {
		ends = append(ends, len(journalOf(lines[:n+1]...)))
	}
	for at := range len(journal) {
		intact := 0
		for ends[intact] <= at {
			intact++
		}
		got, size, ok := impl.RecoverJournal(journal[:at])
		wantLines(t, fmt.Sprintf("RecoverJournal the first %d bytes", at), got, size, ok, lines[:intact])
		after, count, ok := impl.RunJournal(newDesk(), journal[:at])
		wantInteger(t, "RunJournal", count, ok, int64(intact))
		wantDesk(t, "RunJournal", after, ok, behindAll(newDesk(), lines[:intact]))
		for other := range 256 {
			text := journal[:at] + string([]byte{byte(other)}) + journal[at+1:]
			if text != journal {
				got, size, ok = impl.RecoverJournal(text)
				wantLines(t, fmt.Sprintf("RecoverJournal with %d at %d", other, at), got, size, ok, recovered(text))
				if len(got) != intact {
					t.Errorf("with %d at %d, there are %d lines", other, at, len(got))
				}
			}
		}
	}
}

// recovered is the tests' own RecoverJournal: it tries each number of lines.
func recovered(text string) []string {
	lines := []string{}
	for _, entry := range strings.Split(text, "\n") {
		_, line, _ := strings.Cut(entry, " ")
		more := append(slices.Clone(lines), line)
		if !strings.HasPrefix(text, journalOf(more...)) {
			return lines
		}
		lines = more
	}
	return lines
}

// TestCheckNumbersOfJournals has other check numbers, and other forms of them.
func TestCheckNumbersOfJournals(t *testing.T) {
	lines := []string{"degree", "", "roots"}
	for n := range lines {
		before := journalOf(lines[:n]...)
		entry := strings.TrimPrefix(journalOf(lines[:n+1]...), before)
		behind := strings.TrimPrefix(journalOf(lines...), before+entry)
		number, rest, _ := strings.Cut(entry, " ")
		for _, other := range []string{"+" + number, "-" + number, "0" + number, "00" + number, " " + number, number + " ", number + "0", number + ".0", number + "\t", "", "-0", "0", number[1:], number[:len(number)-1], "x", "65003", "9223372036854775808"} {
			got, size, ok := impl.RecoverJournal(before + other + " " + rest + behind)
			wantLines(t, fmt.Sprintf("RecoverJournal with the check number %q of line %d", other, n), got, size, ok, lines[:n])
		}
		for _, other := range []string{number + rest, number + "\t" + rest, number + "  " + rest, rest, number + "\n" + rest, number + " " + strings.TrimSuffix(rest, "\n"), number + " " + strings.TrimSuffix(rest, "\n") + "\r\n"} {
			got, size, ok := impl.RecoverJournal(before + other + behind)
			wantLines(t, fmt.Sprintf("RecoverJournal with %q", other), got, size, ok, lines[:n])
		}
		// Its own number, and with CheckSize added, which leaves the same rest.
		check := checkOf(0, strings.Join(lines[:n+1], ""))
		if fmt.Sprint(check) != number {
			t.Errorf("the check number of line %d is %s, but %d goes on from the line before", n, number, check)
		}
		got, size, ok := impl.RecoverJournal(before + fmt.Sprint(check+impl.CheckSize) + " " + rest + behind)
		wantLines(t, "RecoverJournal with a number that is too great", got, size, ok, lines[:n])
	}
}

// TestMovedLinesOfJournals has lines that are taken out, put in twice, or have
// changed places.
func TestMovedLinesOfJournals(t *testing.T) {
	lines := []string{"slope", "degree", "a", "swap", "b", "mul"}
	entries := strings.SplitAfter(strings.TrimSuffix(journalOf(lines...), "\n"), "\n")
	entries[len(entries)-1] += "\n"
	check := func(what string, moved []string, intact int) {
		t.Helper()
		got, size, ok := impl.RecoverJournal(strings.Join(moved, ""))
		wantLines(t, what, got, size, ok, lines[:intact])
		after, count, ok := impl.RunJournal(newDesk(), strings.Join(moved, ""))
		wantInteger(t, what, count, ok, int64(intact))
		wantDesk(t, what, after, ok, behindAll(newDesk(), lines[:intact]))
	}
	check("all lines", entries, len(lines))
	for i := range entries {
		check(plain("without line ", i), slices.Delete(slices.Clone(entries), i, i+1), i)
		check(plain("line ", i, " twice"), slices.Insert(slices.Clone(entries), i, entries[i]), i+1)
		check(plain("an empty line before line ", i), slices.Insert(slices.Clone(entries), i, "\n"), i)
		for k := range i {
			moved := slices.Clone(entries)
			moved[i], moved[k] = moved[k], moved[i]
			check(plain("lines ", i, " and ", k, " in the opposite places"), moved, k)
		}
	}
}

func TestRunJournal(t *testing.T) {
	lines := []string{"slope", "what", "a none", "swap", "real -1,-1,2", "div"}
	after, count, ok := impl.RunJournal(newDesk(), journalOf(lines...))
	wantInteger(t, "RunJournal", count, ok, 6)
	wantDesk(t, "RunJournal", after, ok, deskOf(polyOf(0.5), polyOf(-1), realOf(-1, -1, 2), 0, 1, 2))
	after, count, ok = impl.RunJournal(newDesk(), journalOf(lines...)+"x")
	wantInteger(t, "RunJournal", count, ok, 6)
	wantDesk(t, "RunJournal", after, ok, deskOf(polyOf(0.5), polyOf(-1), realOf(-1, -1, 2), 0, 1, 2))
	for _, text := range []string{"", "x", "slope\n", "0 slope\n"} {
		after, count, ok = impl.RunJournal(newDesk(), text)
		wantInteger(t, "RunJournal of no lines", count, ok, 0)
		wantDesk(t, "RunJournal of no lines", after, ok, newDesk())
	}
	for _, d := range invalidDesks() {
		for _, text := range []string{"", "x", journalOf("slope"), journalOf("a "+wordOfOne, "points "+wordOfOne), journalOf("")} {
			after, count, ok = impl.RunJournal(d, text)
			wantNoDesk(t, "RunJournal at an invalid desk", after, ok)
			wantNoInteger(t, "RunJournal at an invalid desk", count, ok)
		}
	}
}
