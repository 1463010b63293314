package tests

import (
	"math"
	"slices"
	"strings"
	"testing"

	"loop.example/g01358/impl"
)

const deskRounds = 300

// deskDraw is what one round of the sweep calls the functions with.
type deskDraw struct {
	desk, other        impl.Desk
	poly               impl.Poly
	real               impl.Real
	polyText, realText string
	line, script       string
	outputs            string
	lines              []string
	journal            string
}

// someTerms gives terms, most of which have a last one that is not 0.
func (s *sweep) someTerms(draw func() float32) impl.Poly {
	p := s.polyOfDegree(draw, s.below([4]int{2, 4, 9, impl.MaxTerms + 1}[s.below(4)]))
	for len(p.Terms) > 1 && p.Terms[len(p.Terms)-1] == 0 && s.below(20) > 0 {
		p.Terms = p.Terms[:len(p.Terms)-1]
	}
	return p
}

// someReal gives integers, most of which are the terms of a polynomial.
func (s *sweep) someReal() impl.Real {
	switch s.below(5) {
	case 0:
		return s.product()
	case 1:
		return s.close()
	case 2:
		return realOf(s.terms(impl.MaxReal+1, []int64{1, 3, 1000, 1010}[s.below(4)])...)
	}
	return realOf(cut(s.terms(impl.MaxReal, []int64{1, 4, 1000}[s.below(3)]))...)
}

// somePoints gives numbers of which most are not equal.
func (s *sweep) somePoints(draw func() float32) []complex64 {
	points := []complex64{}
	for _, point := range s.points(draw) {
		equal := false
		for _, other := range points {
			equal = equal || point == other
		}
		if !equal || s.below(30) == 0 {
			points = append(points, point)
		}
	}
	if s.below(20) == 0 {
		return s.pairs(draw, s.below(20))
	}
	return points
}

func (s *sweep) desk(draw func() float32) impl.Desk {
	return deskOf(s.someTerms(draw), s.someTerms(draw), s.someReal(), s.somePoints(draw)...)
}

// someInteger gives the text of a number in decimal, but for some.
func (s *sweep) someInteger() string {
	switch s.below(12) {
	case 0:
		return []string{"", "+1", "-0", "01", "x", "1000001", "1000000", "-1000000", "1000000000000001", "18446744073709551617", "4294967296", "16"}[s.below(12)]
	case 1, 2:
		return integersText(s.integer(1000))
	}
	return integersText(int64(s.below(6)))
}

// someNumber gives the text of a list of one number, but for some.
func (s *sweep) someNumber(draw func() float32) string {
	if s.below(12) == 0 {
		return pairsText(s.pairs(draw, s.below(3))...)
	}
	return pairsText(pairOf(draw))
}

// someText gives the text of one of the parts.
func (s *sweep) someText(draw func() float32) string {
	switch s.below(4) {
	case 0:
		return pairsText(s.someTerms(draw).Terms...)
	case 1:
		return integersText(s.someReal().Terms...)
	case 2:
		return pairsText(s.somePoints(draw)...)
	}
	return s.someNumber(draw)
}

// someLine gives a line of the table, or what is nearly one.
func (s *sweep) someLine(draw func() float32) string {
	line := ""
	switch s.below(9) {
	case 0:
		line = []string{"a ", "b "}[s.below(2)] + pairsText(s.someTerms(draw).Terms...)
	case 1:
		line = []string{"real " + integersText(s.someReal().Terms...), "points " + pairsText(s.somePoints(draw)...)}[s.below(2)]
	case 2:
		line = []string{"a ", "b ", "real ", "points "}[s.below(4)] + s.someText(draw)
	case 3, 4:
		line = []string{"shift ", "scale ", "stretch ", "at ", "bound "}[s.below(5)] + s.someNumber(draw)
	case 5:
		line = []string{"family ", "sign "}[s.below(2)] + s.someInteger() + " " + s.someInteger()
	case 6:
		line = []string{"a", "b", "real", "points", "degree", "within", "values", "roots", "near", "gaps", "ratio"}[s.below(11)]
	default:
		line = []string{"add", "mul", "compose", "div", "swap", "slope", "rise", "monic", "back", "pass"}[s.below(10)]
	}
	switch s.below(25) {
	case 0:
		return s.bent(line)
	case 1:
		return line + " "
	case 2:
		return line + " 1"
	}
	return line
}

// someOutputs gives a text of outputs, and of what is nearly one.
func (s *sweep) someOutputs() string {
	text := ""
	for range s.below(20) {
		text += []string{"no", "what", "ok", "none", "2", "", "no ", "whats", "3f800000"}[s.below(9)] + "\n"
	}
	if s.below(6) == 0 {
		return s.bent(text)
	}
	return text
}

func (s *sweep) deskDraw(draw func() float32) deskDraw {
	v := deskDraw{desk: s.desk(draw), poly: s.someTerms(draw), real: s.someReal(), line: s.someLine(draw), outputs: s.someOutputs()}
	v.other = v.desk
	if s.below(2) == 0 {
		v.other = s.desk(draw)
	} else if terms := slices.Clone(v.desk.B.Terms); len(terms) > 0 && s.below(2) == 0 {
		// This one differs by the sign of one part at most.
		terms[0] = complex(real(terms[0]), -float32(math.Abs(float64(imag(terms[0])))))
		v.other.B = polyOf(terms...)
	}
	v.polyText, v.realText = s.bentOrNot(pairsText(s.someTerms(draw).Terms...)), s.bentOrNot(integersText(s.someReal().Terms...))
	for range s.below(12) {
		v.lines = append(v.lines, s.someLine(draw))
	}
	v.script = strings.Join(v.lines, "\n")
	if s.below(10) > 0 && len(v.lines) > 0 {
		v.script += "\n"
	}
	v.journal = s.bentOrNot(journalOf(v.lines...))
	return v
}

func (s *sweep) bentOrNot(text string) string {
	if s.below(3) == 0 {
		return s.bent(text)
	}
	return text
}

func (d *digest) desk(desk impl.Desk, ok bool) {
	d.poly(desk.A, ok)
	d.poly(desk.B, true)
	d.terms(desk.Real.Terms, true)
	d.list(desk.Points, true)
}

type deskCase struct {
	name string
	want digest
	call func(d *digest, v deskDraw)
}

// The digests were told by a program that was written apart from this one, in
// another language, from the document alone.
func deskCases() []deskCase {
	return []deskCase{
		{"ValidDesk", 0x33e93ba3173ad77f, func(d *digest, v deskDraw) { d.success(impl.ValidDesk(v.desk)) }},
		{"SameDesk", 0x91381a5dbeda748a, func(d *digest, v deskDraw) { d.success(impl.SameDesk(v.desk, v.other)) }},
		{"PolyText", 0xfeb70bea70120b2, func(d *digest, v deskDraw) { d.text(impl.PolyText(v.poly)) }},
		{"ReadPoly", 0x944609ad10e3b65a, func(d *digest, v deskDraw) { d.poly(impl.ReadPoly(v.polyText)) }},
		{"RealText", 0xde538b55b6d72945, func(d *digest, v deskDraw) { d.text(impl.RealText(v.real)) }},
		{"ReadReal", 0xf046d841536560fb, func(d *digest, v deskDraw) { d.real(impl.ReadReal(v.realText)) }},
		{"DeskCommand", 0xe2f270be3b34ad23, func(d *digest, v deskDraw) {
			for _, line := range append(v.lines, v.line) {
				desk, output, ok := impl.DeskCommand(v.desk, line)
				d.desk(desk, ok)
				d.text(output, true)
			}
		}},
		{"RunDesk", 0x505fa401b686c460, func(d *digest, v deskDraw) {
			desk, outputs, ok := impl.RunDesk(v.desk, v.script)
			d.desk(desk, ok)
			d.text(outputs, true)
		}},
		{"CountOutputs", 0x9835893254505f5, func(d *digest, v deskDraw) {
			undone, others, ok := impl.CountOutputs(v.outputs)
			d.success(ok)
			d.add(uint64(undone))
			d.add(uint64(others))
		}},
		{"JournalOf", 0xdfd907f8dc4a5ce5, func(d *digest, v deskDraw) { d.text(impl.JournalOf(append(v.lines, v.script))) }},
		{"RecoverJournal", 0x77176eab9c3c82e4, func(d *digest, v deskDraw) {
			lines, size, ok := impl.RecoverJournal(v.journal)
			d.success(ok)
			d.add(uint64(len(lines)))
			for _, line := range lines {
				d.text(line, true)
			}
			d.add(uint64(size))
		}},
		{"RunJournal", 0x24d2b2c818fdac6d, func(d *digest, v deskDraw) {
			desk, count, ok := impl.RunJournal(v.desk, v.journal)
			d.desk(desk, ok)
			d.add(uint64(count))
		}},
	}
}

func TestDeskSweeps(t *testing.T) {
	for _, c := range deskCases() {
		s := &sweep{}
		d := digest(0)
		for range deskRounds {
			for _, draw := range []func() float32{s.small, s.coarse, s.spread, s.any} {
				c.call(&d, s.deskDraw(draw))
			}
		}
		if d != c.want {
			t.Errorf("%s: digest %#x, want %#x", c.name, uint64(d), uint64(c.want))
		}
	}
}
