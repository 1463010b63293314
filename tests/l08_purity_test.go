package tests

import (
	"slices"
	"strings"
	"testing"

	"loop.example/g01358/impl"
)

func noDesk(d impl.Desk) bool {
	return sameDesk(d, impl.Desk{})
}
func tellDeskAnd(d impl.Desk, output string, ok bool) realOutcome {
	return realOutcome{ok, noDesk(d) && output == "", tellDesk(d) + output, func() { spoilDesk(d) }}
}
func tellDeskCount(d impl.Desk, count int64, ok bool) realOutcome {
	return realOutcome{ok, noDesk(d) && count == 0, tellDesk(d) + integersText(count), func() { spoilDesk(d) }}
}
func tellLines(lines []string, size int64, ok bool) realOutcome {
	return realOutcome{ok, len(lines) == 0 && size == 0, plain(len(lines), lines, size), func() { spoilList(lines) }}
}
func tellCounts(undone, others int64, ok bool) realOutcome {
	return realOutcome{ok, undone == 0 && others == 0, plain(undone, others), func() {}}
}

// goodDraw is an input for which all functions succeed.
func goodDraw() deskDraw {
	d := deskOf(polyOf(1, complex(0, -2), 3), polyOf(minusBoth, 1), realOf(-1, -1, 2), 1, complex(0, 1))
	lines := []string{"swap", "what", "a none", "values"}
	return deskDraw{
		desk: d, other: newDesk(), poly: polyOf(1, 2), real: realOf(3, -4), polyText: wordOfOne + "," + wordOfTwo, realText: "1,-2", line: "swap",
		script: "swap\nwhat\na none\nvalues\n", outputs: "no\nok\n", lines: lines, journal: journalOf(lines...),
	}
}

type deskCall struct {
	name string
	// takes tells what must be valid: desk (d), poly (p), real (r), their texts
	// (P and R), script (s), outputs (o), lines (l), and journal (j).
	takes string
	call  func(v deskDraw) realOutcome
}

func callsOfDesks() []deskCall {
	return []deskCall{
		{"ValidDesk", "", func(v deskDraw) realOutcome { return tellValue(impl.ValidDesk(v.desk), true) }},
		{"SameDesk", "", func(v deskDraw) realOutcome { return tellValue(impl.SameDesk(v.desk, v.other), true) }},
		{"NewDesk", "", func(deskDraw) realOutcome { return tellDeskAnd(impl.NewDesk(), "", true) }},
		{"PolyText", "p", func(v deskDraw) realOutcome { return tellValue(impl.PolyText(v.poly)) }},
		{"ReadPoly", "P", func(v deskDraw) realOutcome { return tellPoly(impl.ReadPoly(v.polyText)) }},
		{"RealText", "r", func(v deskDraw) realOutcome { return tellValue(impl.RealText(v.real)) }},
		{"ReadReal", "R", func(v deskDraw) realOutcome { return tellReal(impl.ReadReal(v.realText)) }},
		{"DeskCommand", "d", func(v deskDraw) realOutcome { return tellDeskAnd(impl.DeskCommand(v.desk, v.line)) }},
		{"RunDesk", "ds", func(v deskDraw) realOutcome { return tellDeskAnd(impl.RunDesk(v.desk, v.script)) }},
		{"CountOutputs", "o", func(v deskDraw) realOutcome { return tellCounts(impl.CountOutputs(v.outputs)) }},
		{"JournalOf", "l", func(v deskDraw) realOutcome { return tellValue(impl.JournalOf(v.lines)) }},
		{"RecoverJournal", "j", func(v deskDraw) realOutcome { return tellLines(impl.RecoverJournal(v.journal)) }},
		{"RunJournal", "dj", func(v deskDraw) realOutcome { return tellDeskCount(impl.RunJournal(v.desk, v.journal)) }},
	}
}

// wrongDraws returns inputs with one argument that is not valid, by what tells
// it in deskCall.
func wrongDraws() map[string][]deskDraw {
	wrong := map[string][]deskDraw{}
	add := func(what string, change func(v *deskDraw)) {
		v := goodDraw()
		change(&v)
		wrong[what] = append(wrong[what], v)
	}
	for _, d := range invalidDesks() {
		add("d", func(v *deskDraw) { v.desk = d })
		add("d", func(v *deskDraw) { v.desk, v.line, v.script, v.lines, v.journal = d, "", "", nil, "" })
	}
	for _, p := range invalidPolys() {
		add("p", func(v *deskDraw) { v.poly = p })
	}
	for _, r := range invalidReals() {
		add("r", func(v *deskDraw) { v.real = r })
	}
	for _, text := range noPolyTexts() {
		add("P", func(v *deskDraw) { v.polyText = text })
	}
	for _, text := range noRealTexts() {
		add("R", func(v *deskDraw) { v.realText = text })
	}
	long := strings.Repeat("x", impl.MaxScript) + "\n"
	for _, text := range []string{"x", "\nx", "ok\nno", long, strings.Repeat("\n", impl.MaxScript+1), long + long} {
		add("s", func(v *deskDraw) { v.script = text })
		add("o", func(v *deskDraw) { v.outputs = text })
	}
	for _, text := range []string{long, strings.Repeat("0 \n", 5334), journalOf(strings.Repeat("a", impl.MaxScript)), strings.Repeat("x", impl.MaxScript+1)} {
		add("j", func(v *deskDraw) { v.journal = text })
	}
	for _, lines := range [][]string{{"\n"}, {"a", "b\n"}, {"\nb"}, {long[:impl.MaxScript]}, repeated("", 5334), repeated("degree", 3000)} {
		add("l", func(v *deskDraw) { v.lines = lines })
	}
	return wrong
}

func TestInvalidDesksFail(t *testing.T) {
	wrong := wrongDraws()
	for _, c := range callsOfDesks() {
		if !c.call(goodDraw()).ok {
			t.Errorf("%s fails for %v", c.name, goodDraw())
		}
		for what, inputs := range wrong {
			for _, v := range inputs {
				if o := c.call(v); strings.Contains(c.takes, what) && (o.ok || !o.isZero) {
					t.Errorf("%s of %.300s: %.300s, %v, but it must fail", c.name, plain(v), o.value, o.ok)
				}
			}
		}
	}
}

// anyDraws have all edges of each argument.
func anyDraws() []deskDraw {
	s := &sweep{}
	odd := specials()
	number := func() float32 { return odd[s.below(len(odd))] }
	inputs := []deskDraw{}
	for range 300 {
		inputs = append(inputs, s.deskDraw(number), s.deskDraw(s.any), s.deskDraw(s.coarse))
	}
	for i, text := range strangeTexts() {
		d := validDesks()[i%len(validDesks())]
		lines := []string{text, "a " + text, text + " " + text, "points " + text, "at " + text, "real " + text, "family " + text + " " + text, "sign 1 " + text}
		inputs = append(inputs, deskDraw{desk: d, other: d, polyText: text, realText: text, line: lines[i%len(lines)], script: text, outputs: text, lines: lines, journal: text})
		script := strings.Join(lines, "\n") + "\n"
		inputs = append(inputs, deskDraw{desk: d, line: lines[(i+1)%len(lines)], script: script, outputs: script, journal: journalOf(lines...)})
	}
	return inputs
}

func TestDesksReturnForAll(t *testing.T) {
	for _, v := range anyDraws() {
		before := plain(v)
		for _, c := range callsOfDesks() {
			one, two := c.call(v), c.call(v)
			if !one.ok && !one.isZero {
				t.Errorf("%s fails for %v, but returns %s", c.name, v, one.value)
			}
			if one.ok != two.ok || one.value != two.value {
				t.Errorf("%s has different results for %v: %s and %s", c.name, v, one.value, two.value)
			}
		}
		if plain(v) != before {
			t.Fatalf("an argument has been changed: %s, then %v", before, v)
		}
	}
}

func roomyIntegers(list []int64) []int64 {
	return slices.Clip(append(slices.Clone(list), 5, 6, 7))[:len(list)]
}

func roomyDesk(d impl.Desk) impl.Desk {
	return deskOf(polyOf(longer(d.A.Terms)...), polyOf(longer(d.B.Terms)...), realOf(roomyIntegers(d.Real.Terms)...), longer(d.Points)...)
}

// roomyDraw returns an input whose lists have capacity behind them.
func roomyDraw(v deskDraw) deskDraw {
	v.desk, v.other = roomyDesk(v.desk), roomyDesk(v.other)
	v.poly.Terms, v.real.Terms = longer(v.poly.Terms), roomyIntegers(v.real.Terms)
	v.lines = slices.Clip(append(slices.Clone(v.lines), "room"))[:len(v.lines)]
	return v
}

func deskWithRoom(d impl.Desk) string {
	a, b, r, points := d.A.Terms, d.B.Terms, d.Real.Terms, d.Points
	return tellDesk(deskOf(polyOf(a[:cap(a)]...), polyOf(b[:cap(b)]...), realOf(r[:cap(r)]...), points[:cap(points)]...))
}

// withRoom tells all lists with what is behind them.
func (v deskDraw) withRoom() string {
	p, r := v.poly.Terms, v.real.Terms
	return plain(deskWithRoom(v.desk), deskWithRoom(v.other), p[:cap(p)], r[:cap(r)], v.lines[:cap(v.lines)])
}

// keptDraws are inputs with a line of each form, and lines that are not done.
func keptDraws() []deskDraw {
	inputs := []deskDraw{}
	for _, line := range append(goodLines(), "a none", "points none", "family 9 9", "at x", "what", "", "add 1") {
		for _, b := range []impl.Poly{polyOf(-1, 1), polyOf(0), ones(5), polyOf(complex(greatest, 0), complex(greatest, 0))} {
			v := goodDraw()
			v.desk.B = b
			v.line, v.lines = line, []string{line, "degree", line}
			v.script, v.journal = line+"\ndegree\n"+line+"\n", journalOf(v.lines...)
			inputs = append(inputs, v)
		}
	}
	none := goodDraw()
	none.lines, none.script, none.journal, none.outputs = nil, "", "", ""
	return append(inputs, none)
}

func TestDesksStayAsTheyAre(t *testing.T) {
	for _, kept := range keptDraws() {
		for _, c := range callsOfDesks() {
			v := roomyDraw(kept)
			all := v.withRoom()
			first := c.call(v)
			if v.withRoom() != all {
				t.Errorf("%s has changed an argument: %v", c.name, v)
			}
			first.spoil()
			if v.withRoom() != all {
				t.Errorf("a result of %s shares memory with an argument: %v", c.name, v)
			}
			if second := c.call(v); !first.ok || second.ok != first.ok || second.value != first.value {
				t.Errorf("%s keeps something: %s, %v, then %s, %v", c.name, first.value, first.ok, second.value, second.ok)
			}
		}
	}
}

// wantParts checks that no part of a desk shares memory with another one.
func wantParts(t *testing.T, what string, d impl.Desk) {
	t.Helper()
	before := deskOf(polyOf(slices.Clone(d.A.Terms)...), polyOf(slices.Clone(d.B.Terms)...), realOf(slices.Clone(d.Real.Terms)...), slices.Clone(d.Points)...)
	spoilList(d.A.Terms)
	if !sameLists(d.B.Terms, before.B.Terms) || !sameLists(d.Points, before.Points) {
		t.Errorf("%s: A shares memory with another part", what)
	}
	spoilList(d.B.Terms)
	if !sameLists(d.Points, before.Points) {
		t.Errorf("%s: B shares memory with the points", what)
	}
	// What is behind the end of one list must be no part of another one.
	for i, list := range [][]complex64{d.A.Terms, d.B.Terms, d.Points} {
		spoilList(list)
		_ = append(list, 7, 8, 9)
		if i < 2 && !sameLists(d.Points, before.Points) {
			t.Errorf("%s: the points are behind another list", what)
		}
	}
}

func TestPartsOfDesksShareNoMemory(t *testing.T) {
	wantParts(t, "NewDesk", impl.NewDesk())
	for _, v := range keptDraws() {
		// A desk whose own parts share memory is an argument like others.
		v.desk.B.Terms = v.desk.A.Terms
		v.desk.Points = []complex64{1, 2, 3}[:2]
		one, _, _ := impl.DeskCommand(v.desk, v.line)
		wantParts(t, v.line, one)
		two, _, _ := impl.RunDesk(v.desk, v.script)
		wantParts(t, v.script, two)
		three, _, _ := impl.RunJournal(v.desk, v.journal)
		wantParts(t, v.journal, three)
	}
	shared := []complex64{1, 2, 3}
	d := deskOf(polyOf(shared...), polyOf(shared[:2]...), realOf(1), shared...)
	for _, line := range []string{"swap", "degree", "", "div", "points none"} {
		after, _, _ := impl.DeskCommand(d, line)
		wantParts(t, line, after)
	}
	wantList(t, "the shared terms", shared, true, 1, 2, 3)
}

// TestChangedDesks changes desks behind lines that were handed out.
func TestChangedDesks(t *testing.T) {
	d := newDesk()
	for _, line := range append(goodLines(), "", "a none") {
		after, output, ok := impl.DeskCommand(d, line)
		before := tellDesk(after)
		spoilDesk(after)
		wantDesk(t, plain("the desk before ", line), d, true, newDesk())
		again, text, isDone := impl.DeskCommand(d, line)
		wantText(t, line, text, isDone, output)
		if !ok || tellDesk(again) != before {
			t.Errorf("%q: %s, then %s", line, before, tellDesk(again))
		}
		// A change of the one before reaches none that has been handed out.
		own := newDesk()
		after, _, _ = impl.DeskCommand(own, line)
		spoilDesk(own)
		if tellDesk(after) != before {
			t.Errorf("%q: %s, then %s", line, before, tellDesk(after))
		}
	}
}

func TestNilAndEmptyDesksAreOneValue(t *testing.T) {
	for _, c := range callsOfDesks() {
		none, empty := goodDraw(), goodDraw()
		none.desk, none.other, none.poly, none.real, none.lines = impl.Desk{}, impl.Desk{}, impl.Poly{}, impl.Real{}, nil
		bare := impl.Desk{A: impl.Poly{Terms: []complex64{}}, B: impl.Poly{Terms: []complex64{}}, Real: impl.Real{Terms: []int64{}}, Points: []complex64{}}
		empty.desk, empty.other, empty.poly, empty.real, empty.lines = bare, bare, bare.A, bare.Real, []string{}
		if one, two := c.call(none), c.call(empty); one.ok != two.ok || one.value != two.value {
			t.Errorf("%s has different results for nil and empty lists: %s and %s", c.name, one.value, two.value)
		}
		none.other, empty.other = bare, impl.Desk{}
		if one, two := c.call(none), c.call(empty); one.ok != two.ok || one.value != two.value {
			t.Errorf("%s has different results for nil and empty lists: %s and %s", c.name, one.value, two.value)
		}
	}
}
