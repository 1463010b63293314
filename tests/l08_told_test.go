package tests

import (
	"strings"
	"testing"

	"loop.example/g01358/impl"
)

// newA, newBoth and onlyTold are what a line leaves behind, and outputs.
func newA(d impl.Desk, p impl.Poly, ok bool) (impl.Desk, string) {
	return newBoth(d, p, d.B, ok)
}

func newBoth(d impl.Desk, a, b impl.Poly, ok bool) (impl.Desk, string) {
	if !ok {
		return d, "no"
	}
	d.A, d.B = a, b
	return d, "ok"
}

func onlyTold(d impl.Desk, text string, ok bool) (impl.Desk, string) {
	if !ok {
		return d, "no"
	}
	return d, text
}

// toldOfA, toldOfReal and toldOfNumber are what the functions tell that lines
// name. Numbers that a line tells are in the lists of the told texts.
func toldOfA(d impl.Desk, name string) (impl.Desk, string) {
	var p, q impl.Poly
	var ok bool
	switch name {
	case "add":
		p, ok = impl.AddPolys(d.A, d.B)
	case "mul":
		p, ok = impl.MulPolys(d.A, d.B)
	case "compose":
		p, ok = impl.ComposePolys(d.A, d.B)
	case "slope":
		p, ok = impl.SlopePoly(d.A)
	case "rise":
		p, ok = impl.RisePoly(d.A)
	case "monic":
		p, ok = impl.MonicPoly(d.A)
	case "back":
		p, ok = impl.BackPoly(d.A)
	case "div":
		p, q, ok = impl.DivPolys(d.A, d.B)
		return newBoth(d, p, q, ok)
	case "swap":
		return newBoth(d, d.B, d.A, true)
	case "pass":
		values, _ := impl.PolyPoints(d.B, d.Points)
		p, ok = impl.PassingPoly(d.Points, values)
	case "a":
		return onlyTold(d, pairsText(d.A.Terms...), true)
	case "b":
		return onlyTold(d, pairsText(d.B.Terms...), true)
	case "points":
		return onlyTold(d, pairsText(d.Points...), true)
	case "degree":
		n, ok := impl.DegreeOf(d.A)
		return onlyTold(d, integersText(n), ok)
	case "within":
		x, ok := impl.RootsWithin(d.A)
		return onlyTold(d, numbersText(x), ok)
	case "values":
		list, ok := impl.PolyPoints(d.A, d.Points)
		return onlyTold(d, pairsText(list...), ok)
	}
	return newA(d, p, ok)
}

func toldOfReal(d impl.Desk, name string) (impl.Desk, string) {
	switch name {
	case "real":
		return onlyTold(d, integersText(d.Real.Terms...), true)
	case "roots":
		n, ok := impl.RealRoots(d.Real)
		return onlyTold(d, integersText(n), ok)
	case "near":
		list, ok := impl.RootsNear(d.Real)
		return onlyTold(d, numbersText(list...), ok)
	case "ratio":
		list, ok := impl.RatioRoots(d.Real)
		return onlyTold(d, integersText(list...), ok)
	}
	gaps, ok := impl.IsolateRoots(d.Real)
	numbers := []int64{}
	for _, g := range gaps {
		numbers = append(numbers, g.Low, g.High, g.Shift)
	}
	return onlyTold(d, integersText(numbers...), ok)
}

func toldOfNumber(d impl.Desk, name string, z complex64) (impl.Desk, string) {
	var p impl.Poly
	var ok bool
	switch name {
	case "shift":
		p, ok = impl.ShiftPoly(d.A, z)
	case "scale":
		p, ok = impl.ScalePoly(d.A, z)
	case "stretch":
		p, ok = impl.StretchPoly(d.A, z)
	case "at":
		value, ok := impl.PolyAt(d.A, z)
		return onlyTold(d, pairsText(value), ok)
	case "bound":
		x, ok := impl.BoundAt(d.A, z)
		return onlyTold(d, numbersText(x), ok)
	}
	return newA(d, p, ok)
}

var (
	linesOfA       = []string{"add", "mul", "compose", "slope", "rise", "monic", "back", "div", "swap", "pass", "a", "b", "points", "degree", "within", "values"}
	linesOfReal    = []string{"real", "roots", "near", "ratio", "gaps"}
	linesOfNumbers = []string{"shift", "scale", "stretch", "at", "bound"}
)

// toldDesks are valid ones: with edges, and drawn ones.
func toldDesks() []impl.Desk {
	desks := validDesks()
	s := &sweep{}
	for range 100 {
		for _, draw := range []func() float32{s.small, s.coarse, s.spread, s.any} {
			if d := s.desk(draw); impl.ValidDesk(d) {
				desks = append(desks, d)
			}
		}
	}
	return desks
}

// TestDesksOutputWhatFunctionsTell has each line at each desk.
func TestDesksOutputWhatFunctionsTell(t *testing.T) {
	s := &sweep{}
	for _, d := range toldDesks() {
		for _, name := range linesOfA {
			after, output := toldOfA(d, name)
			wantLine(t, d, name, after, output)
		}
		for _, name := range linesOfReal {
			after, output := toldOfReal(d, name)
			wantLine(t, d, name, after, output)
		}
		for _, name := range linesOfNumbers {
			for _, z := range []complex64{0, minusBoth, 1, complex(-0.5, 2), pairOf(s.spread), pairOf(s.any), complex(nan, 0), complex(0, plusInf)} {
				after, output := toldOfNumber(d, name, z)
				wantLine(t, d, name+" "+pairsText(z), after, output)
			}
		}
		for _, n := range []int64{0, 1, -1, 3, impl.MaxTerms - 1, impl.MaxTerms, 1000000, 1000001} {
			for _, k := range []int64{0, 1, 2, 5, impl.MaxTerms - 1, impl.MaxTerms, 1000000, 1000001} {
				p, ok := impl.FamilyPoly(n, k)
				after, output := newA(d, p, ok)
				wantLine(t, d, "family "+integersText(n)+" "+integersText(k), after, output)
				sign, ok := impl.SignAt(d.Real, n, k)
				after, output = onlyTold(d, integersText(sign), ok)
				wantLine(t, d, "sign "+integersText(n)+" "+integersText(k), after, output)
			}
		}
	}
}

// TestScriptsAreLines has scripts, whose desks and outputs are those of their
// lines, one after another, and journals of them.
func TestScriptsAreLines(t *testing.T) {
	s := &sweep{}
	for range 150 {
		for _, draw := range []func() float32{s.small, s.coarse, s.spread, s.any} {
			d := s.desk(draw)
			if !impl.ValidDesk(d) {
				continue
			}
			last, outputs, lines := d, "", []string{}
			undone, others := int64(0), int64(0)
			for range s.below(20) {
				line := s.someLine(draw)
				if strings.Contains(line, "\n") {
					continue
				}
				after, output, ok := impl.DeskCommand(last, line)
				if !ok || !impl.ValidDesk(after) {
					t.Fatalf("%q at %s: %s, %q, %v", line, tellDesk(last), tellDesk(after), output, ok)
				}
				if output == "no" || output == "what" {
					undone++
				} else {
					others++
				}
				// Lines that are not done change nothing, and those that tell neither.
				if output != "ok" {
					wantDesk(t, plain("behind ", line), after, ok, last)
				}
				last, outputs, lines = after, outputs+output+"\n", append(lines, line)
			}
			script := strings.Join(append(lines, ""), "\n")
			wantScript(t, d, script, last, outputs)
			wantCount(t, outputs, undone, others)
			wantKept(t, d, lines, last)
		}
	}
}

// wantKept checks that a journal of lines is recovered, and carried out.
func wantKept(t *testing.T, d impl.Desk, lines []string, last impl.Desk) {
	t.Helper()
	journal, ok := impl.JournalOf(lines)
	wantText(t, plain("JournalOf ", lines), journal, ok, journalOf(lines...))
	got, size, ok := impl.RecoverJournal(journal)
	wantLines(t, "RecoverJournal", got, size, ok, lines)
	after, count, ok := impl.RunJournal(d, journal)
	wantInteger(t, "RunJournal", count, ok, int64(len(lines)))
	wantDesk(t, "RunJournal", after, ok, last)
}

// TestPartsAreReadBack has texts that a desk tells, and is told again.
func TestPartsAreReadBack(t *testing.T) {
	for _, d := range toldDesks() {
		_, told, _ := impl.RunDesk(d, "a\nb\nreal\npoints\n")
		texts := strings.Split(told, "\n")
		script := "a " + texts[0] + "\nb " + texts[1] + "\nreal " + texts[2] + "\npoints " + texts[3] + "\n"
		wantScript(t, newDesk(), script, d, "ok\nok\nok\nok\n")
	}
}
