package tests

import (
	"strings"
	"testing"

	"loop.example/g01358/impl"
)

// wantScript checks the desk behind a script, and the outputs.
func wantScript(t *testing.T, d impl.Desk, script string, after impl.Desk, outputs string) {
	t.Helper()
	got, text, ok := impl.RunDesk(d, script)
	wantDesk(t, plain("the desk behind ", []string{script}), got, ok, after)
	wantText(t, plain("RunDesk ", []string{script}), text, ok, outputs)
}

func wantNoScript(t *testing.T, d impl.Desk, script string) {
	t.Helper()
	got, text, ok := impl.RunDesk(d, script)
	wantNoDesk(t, "the desk behind a script", got, ok)
	wantNoText(t, "RunDesk", text, ok)
}

func TestRunDesk(t *testing.T) {
	d := newDesk()
	wantScript(t, d, "", d, "")
	wantScript(t, d, "\n", d, "what\n")
	wantScript(t, d, "\n\n\n", d, "what\nwhat\nwhat\n")
	wantScript(t, d, "degree\n", d, "2\n")
	wantScript(t, d, "slope\ndegree\nslope\ndegree\nslope\ndegree\nslope\n", deskWithA(0), "ok\n1\nok\n0\nok\n-1\nok\n")
	// Behind a line that changes nothing, the desk is the one before it.
	wantScript(t, d, "scale bf80000000000000\nmonic 1\nrise x\ndiv\n\n a\na \nshift\nshift 7f80000000000000\na\n", deskWithBoth(polyOf(complex(-1, 0), complex(-1, 0)), polyOf(0)), "ok\nwhat\nwhat\nok\nwhat\nwhat\nno\nwhat\nno\nbf80000000000000,bf80000000000000\n")
	wantScript(t, d, "swap\na\nb\nswap\na\n", d, "ok\nbf80000000000000,3f80000000000000\nbf80000000000000,0000000000000000,3f80000000000000\nok\nbf80000000000000,0000000000000000,3f80000000000000\n")
	wantScript(t, d, "points none\npoints\nvalues\npass\na\n", deskWithA(-1, 1), "no\n0000000000000000,3f80000000000000,4000000000000000\nbf80000000000000,0000000000000000,4040000000000000\nok\nbf80000000000000,3f80000000000000\n")
	wantScript(t, d, "b 0000000000000000\ndiv\nb 3f80000000000000\ndiv\nb\n", deskWithBoth(polyOf(-1, 0, 1), polyOf(0)), "ok\nno\nok\nok\n0000000000000000\n")
	wantScript(t, d, "roots\r\n\x00\n\xff\xfe\n\u00e9\nroots\n", d, "what\nwhat\nwhat\nwhat\n2\n")
	wantScript(t, d, "real 0,1\nnear\n", deskWithReal(realOf(0, 1)), "ok\nb1000000\n")
}

func TestScriptsThatAreNotEnded(t *testing.T) {
	for _, script := range []string{"degree", "a", " ", "degree\nroots", "\nx", "\n ", "degree\n\n\n\x00", "degree\r", "degree\n\r", "slope\nslope\nslope"} {
		wantNoScript(t, newDesk(), script)
	}
	for at := range "degree\nslope\nat x\n" {
		script := "degree\nslope\nat x\n"[:at]
		if script != "" && !strings.HasSuffix(script, "\n") {
			wantNoScript(t, newDesk(), script)
		}
	}
}

func TestScriptsAtInvalidDesks(t *testing.T) {
	for _, d := range invalidDesks() {
		for _, script := range []string{"", "\n", "degree\n", "points " + wordOfOne + "\n", "a " + wordOfOne + "\nb " + wordOfOne + "\nreal 1\npoints " + wordOfOne + "\n"} {
			wantNoScript(t, d, script)
		}
	}
}

func TestLongScripts(t *testing.T) {
	d := newDesk()
	wantScript(t, d, strings.Repeat("\n", impl.MaxScript), d, strings.Repeat("what\n", impl.MaxScript))
	wantScript(t, d, strings.Repeat("roots x\n", impl.MaxScript/8), d, strings.Repeat("what\n", impl.MaxScript/8))
	wantScript(t, d, strings.Repeat("a \nswap\n", impl.MaxScript/8), d, strings.Repeat("no\nok\n", impl.MaxScript/8))
	wantScript(t, d, strings.Repeat("values\n\n", impl.MaxScript/8), d, strings.Repeat("bf80000000000000,0000000000000000,4040000000000000\nwhat\n", impl.MaxScript/8))
	wantScript(t, d, strings.Repeat("x", impl.MaxScript-1)+"\n", d, "what\n")
	wantScript(t, d, "a "+strings.Repeat("x", impl.MaxScript-3)+"\n", d, "no\n")
	for _, script := range []string{strings.Repeat("\n", impl.MaxScript+1), strings.Repeat("x", impl.MaxScript) + "\n", strings.Repeat("x", impl.MaxScript), strings.Repeat("x", impl.MaxScript-1), strings.Repeat("\n", 3*impl.MaxScript), "x\n" + strings.Repeat("roots x\n", impl.MaxScript/8)} {
		wantNoScript(t, d, script)
	}
}

func wantCount(t *testing.T, text string, undone, others int64) {
	t.Helper()
	one, two, ok := impl.CountOutputs(text)
	if !ok || one != undone || two != others {
		t.Errorf("CountOutputs of %.100q: got %d, %d, %v, want %d, %d", text, one, two, ok, undone, others)
	}
}

func wantNoCount(t *testing.T, text string) {
	t.Helper()
	one, two, ok := impl.CountOutputs(text)
	if ok || one != 0 || two != 0 {
		t.Errorf("CountOutputs of %.100q: got %d, %d, %v, but it must fail", text, one, two, ok)
	}
}

func TestCountOutputs(t *testing.T) {
	wantCount(t, "", 0, 0)
	wantCount(t, "\n", 0, 1)
	wantCount(t, "\n\n\n", 0, 3)
	wantCount(t, "no\n", 1, 0)
	wantCount(t, "what\n", 1, 0)
	wantCount(t, "ok\n", 0, 1)
	wantCount(t, "no\nwhat\nok\nno\n2\nwhat\nnone\n3f800000\nno\n", 5, 4)
	for _, line := range []string{
		"none", "no ", " no", "no no", "nono", "n", "o", "on", "No", "NO", "no\x00", "\x00no", "no\r", "no\t", "no,", "no.", "now", "not",
		"what ", " what", "whatwhat", "what what", "wha", "hat", "What", "WHAT", "what\r", "what\x00", "what?", "whatever", "nowhat", "whatno", "no what", "", " ", "\xff", "\u00e9",
	} {
		wantCount(t, line+"\n", 0, 1)
		wantCount(t, line+"\nno\n"+line+"\nwhat\n", 2, 2)
		wantCount(t, "ok\n"+line+"\n"+line+"\n", 0, 3)
	}
	for _, text := range []string{"no", "what", "ok", "x", " ", "\nno", "no\nwhat", "no\n ", "no\nok\nx", "\r", "no\n\x00", "\n\n "} {
		wantNoCount(t, text)
	}
	wantCount(t, strings.Repeat("\n", impl.MaxScript), 0, impl.MaxScript)
	wantCount(t, strings.Repeat("what\n", impl.MaxScript/5), impl.MaxScript/5, 0)
	wantCount(t, strings.Repeat("ok\nwhat\n", impl.MaxScript/8), impl.MaxScript/8, impl.MaxScript/8)
	wantCount(t, strings.Repeat("x", impl.MaxScript-4)+"\nno\n", 1, 1)
	for _, text := range []string{strings.Repeat("\n", impl.MaxScript+1), strings.Repeat("x", impl.MaxScript) + "\n", strings.Repeat("x", impl.MaxScript-3) + "\nno\n", strings.Repeat("what\n", impl.MaxScript/5) + "\n", strings.Repeat("x", impl.MaxScript), strings.Repeat("no\n", impl.MaxScript)} {
		wantNoCount(t, text)
	}
}

// TestOutputsAreCounted has scripts whose outputs are counted.
func TestOutputsAreCounted(t *testing.T) {
	_, outputs, _ := impl.RunDesk(newDesk(), "degree\nratio\nfamily 9 9\n\nmul\nat x\nwhat\nno\n")
	wantCount(t, outputs, 5, 3)
	_, outputs, _ = impl.RunDesk(newDesk(), "")
	wantCount(t, outputs, 0, 0)
}
