package tests

import (
	"testing"

	"loop.example/g01358/impl"
)

// TestExamplesOfDesks has the examples of chapter 8, in its order.
func TestExamplesOfDesks(t *testing.T) {
	d := impl.NewDesk()
	for _, c := range [][2]string{{"degree", "2"}, {"roots", "2"}, {"sign 3 2", "1"}} {
		after, output, ok := impl.DeskCommand(d, c[0])
		wantDesk(t, c[0], after, ok, newDesk())
		wantText(t, c[0], output, ok, c[1])
	}
	after, outputs, ok := impl.RunDesk(d, "degree\nroots\nsign 3 2\n")
	wantDesk(t, "the script of the examples", after, ok, newDesk())
	wantText(t, "the script of the examples", outputs, ok, "2\n2\n1\n")
}

func TestLimitOfScripts(t *testing.T) {
	if impl.MaxScript != 16000 {
		t.Errorf("the limit is %d", impl.MaxScript)
	}
}

// TestTable has all lines of the document's table, one after another, at a desk
// that is built and told by lines only.
func TestTable(t *testing.T) {
	const zero, one, two, minus = "0000000000000000", "3f80000000000000", "4000000000000000", "bf80000000000000"
	d := impl.NewDesk()
	for _, c := range [][2]string{
		{"a", minus + "," + zero + "," + one}, {"b", minus + "," + one}, {"real", "-2,0,1"}, {"points", zero + "," + one + "," + two},
		{"degree", "2"}, {"at " + two, "4040000000000000"}, {"bound " + two, "36f00000"}, {"within", "40000000"}, {"values", minus + "," + zero + ",4040000000000000"},
		{"roots", "2"}, {"near", "bfb504f3,3fb504f3"}, {"gaps", "-8,0,1,0,8,1"}, {"ratio", "none"}, {"sign -3 2", "1"}, {"sign 1 1", "-1"},
		{"div", "ok"}, {"a", one + "," + one}, {"b", zero}, {"swap", "ok"}, {"a", zero}, {"b", one + "," + one}, {"degree", "-1"}, {"within", "no"}, {"monic", "no"},
		{"swap", "ok"}, {"b " + minus + "," + two, "ok"}, {"mul", "ok"}, {"a", minus + "," + one + "," + two}, {"add", "ok"}, {"a", "c000000000000000,4040000000000000," + two},
		{"monic", "ok"}, {"a", minus + ",3fc0000000000000," + one}, {"slope", "ok"}, {"a", "3fc0000000000000," + two}, {"back", "ok"}, {"a", two + ",3fc0000000000000"},
		{"rise", "ok"}, {"a", zero + "," + two + ",3f40000000000000"}, {"compose", "ok"}, {"a", "bfa0000000000000," + one + ",4040000000000000"},
		{"shift " + one, "ok"}, {"a", "4030000000000000,40e0000000000000,4040000000000000"}, {"scale " + two, "ok"}, {"a", "40b0000000000000,4160000000000000,40c0000000000000"},
		{"stretch " + minus, "ok"}, {"a", "40b0000000000000,c160000000000000,40c0000000000000"},
		{"points " + one + "," + minus, "ok"}, {"points", one + "," + minus}, {"values", "c020000000000000,41cc000000000000"}, {"pass", "ok"}, {"a", minus + "," + two},
		{"family 2 2", "ok"}, {"a", "bf00000000000000,0000000000000000,3fc0000000000000"}, {"real -1,-1,2", "ok"}, {"ratio", "-1,2,1,1"}, {"real", "-1,-1,2"},
		{"what", "what"}, {"no", "what"}, {"", "what"}, {"ok", "what"},
	} {
		after, output, ok := impl.DeskCommand(d, c[0])
		wantText(t, c[0], output, ok, c[1])
		d = after
	}
	want := deskOf(polyOf(-0.5, 0, 1.5), polyOf(-1, 2), realOf(-1, -1, 2), 1, -1)
	wantDesk(t, "the desk behind all lines", d, true, want)
}
