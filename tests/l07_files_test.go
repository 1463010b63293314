package tests

import (
	"slices"
	"strings"
	"testing"

	"loop.example/g01358/impl"
)

func TestValidSaved(t *testing.T) {
	for _, s := range validSaved() {
		if !impl.ValidSaved(s) {
			t.Errorf("%v is valid", s)
		}
	}
	for _, s := range invalidSaved() {
		if impl.ValidSaved(s) {
			t.Errorf("%v is not valid", s)
		}
	}
}

func TestSameSaved(t *testing.T) {
	all := append(validSaved(), invalidSaved()...)
	for i, a := range all {
		for k, b := range all {
			if want := sameSaved(a, b); impl.SameSaved([]impl.Saved{a}, []impl.Saved{b}) != want {
				t.Errorf("SameSaved of %d, %v, and %d, %v, is not %v", i, a, k, b, want)
			}
		}
	}
	one, two := savedOf("a", polyOf(1), whole(1)), savedOf("b", polyOf(1), whole(1))
	zero, minus := savedOf("a", polyOf(0), whole(0)), savedOf("a", polyOf(minusBoth), whole(0))
	none, other := savedOf("a", polyOf(complex(nan, 1)), whole(0)), savedOf("a", polyOf(complex(oddNaN, 1)), whole(0))
	cases := []struct {
		a, b []impl.Saved
		want bool
	}{
		{nil, nil, true}, {nil, []impl.Saved{}, true}, {nil, []impl.Saved{{}}, false}, {[]impl.Saved{one}, nil, false}, {[]impl.Saved{one}, []impl.Saved{two}, false},
		{[]impl.Saved{one, two}, []impl.Saved{one, two}, true}, {[]impl.Saved{one, two}, []impl.Saved{two, one}, false}, {[]impl.Saved{one, two}, []impl.Saved{one}, false}, {[]impl.Saved{one}, []impl.Saved{one, one}, false},
		{[]impl.Saved{one, two}, []impl.Saved{one, one}, false}, {[]impl.Saved{zero}, []impl.Saved{minus}, false}, {[]impl.Saved{none}, []impl.Saved{other}, true},
		{[]impl.Saved{one}, []impl.Saved{savedOf("a", polyOf(1), whole(1, 0))}, false}, {[]impl.Saved{one}, []impl.Saved{savedOf("a", polyOf(1, 0), whole(1))}, false},
		{[]impl.Saved{{Poly: polyOf([]complex64{}...)}}, []impl.Saved{{Whole: whole([]int64{}...)}}, true}, {repeated(one, 20), repeated(one, 20), true},
	}
	for _, c := range cases {
		if got := impl.SameSaved(c.a, c.b); got != c.want {
			t.Errorf("SameSaved of %v and %v is %v", c.a, c.b, got)
		}
	}
}

func TestStoreSaved(t *testing.T) {
	got, ok := impl.StoreSaved(savedOf("ab", polyOf(complex(1, minusZero), complex(-2, 0.5)), whole(-1, 0, 258)))
	body := "POL1\x02ab\x02" + "\x00\x00\x80\x3f" + "\x00\x00\x00\x80" + "\x00\x00\x00\xc0" + "\x00\x00\x00\x3f" + "\x03" + "\xff\xff\xff\x7f" + "\x00\x00\x00\x80" + "\x02\x01\x00\x80"
	wantText(t, "StoreSaved", got, ok, body+"\x44\xab")
	got, ok = impl.StoreSaved(savedOf("z", polyOf(0), whole(1000000)))
	wantText(t, "StoreSaved", got, ok, "POL1\x01z\x01\x00\x00\x00\x00\x00\x00\x00\x00\x01\x40\x42\x0f\x80"+"\xa9\xe7")
	for _, s := range validSaved() {
		got, ok := impl.StoreSaved(s)
		wantText(t, plain("StoreSaved ", s), got, ok, storedAs(s))
	}
	for _, s := range invalidSaved() {
		got, ok := impl.StoreSaved(s)
		wantNoText(t, plain("StoreSaved ", s), got, ok)
	}
}

func TestLoadSaved(t *testing.T) {
	for _, s := range validSaved() {
		got, ok := impl.LoadSaved(storedAs(s))
		wantSaved(t, plain("LoadSaved ", s), got, ok, s)
	}
	for _, s := range invalidSaved() {
		// Some terms have no four bytes of their own.
		if fits := !slices.ContainsFunc(s.Whole.Terms, func(n int64) bool { return n != int64(int32(n)) }); fits {
			got, ok := impl.LoadSaved(storedAs(s))
			wantNoSaved(t, plain("LoadSaved ", s), got, ok)
		}
	}
}

// bentTexts are nearly what is stored, but for one byte, or the length.
func bentTexts(text string) []string {
	texts := []string{text + "\x00", text + "P", text + text, "\x00" + text, text + "POL1"}
	for i := range len(text) {
		texts = append(texts, text[:i], text[i+1:], text[:i]+"\x00"+text[i:], text[i:]+text[:i])
		for _, change := range []byte{1, 2, 4, 8, 16, 32, 64, 128, 255} {
			texts = append(texts, text[:i]+string([]byte{text[i] ^ change})+text[i+1:])
		}
	}
	return texts
}

func TestBentTextsAreNotLoaded(t *testing.T) {
	for _, s := range []impl.Saved{savedOf("a", polyOf(1), whole(-1)), savedOf("polynoms", polyOf(0.5, complex(0, 3)), whole(7, 8, 9)), validSaved()[17]} {
		stored := storedAs(s)
		for _, text := range bentTexts(stored) {
			if text == stored {
				continue
			}
			got, ok := impl.LoadSaved(text)
			wantNoSaved(t, plain("LoadSaved ", []byte(text)), got, ok)
		}
	}
}

// sealedParts are wrong in one part, but have the right check number.
func sealedParts() []string {
	one, number := pairBytes(1), termBytes(1)
	texts := []string{}
	for _, start := range []string{"POL0", "POL2", "pol1", "POL", "OL1", "", "POL1POL1", "\x00POL1", "1LOP"} {
		texts = append(texts, start+"\x01a\x01"+one+"\x01"+number)
	}
	for _, name := range []string{"\x00", "\x01A", "\x02a", "\x02ab" + "c", "\x09abcdefghi", "\x01ab", "\xffa", "\x01\x00", ""} {
		texts = append(texts, "POL1"+name+"\x01"+one+"\x01"+number)
	}
	zeros := []string{pairBytes(0), pairBytes(minusBoth), pairBytes(complex(minusZero, 0)), pairBytes(complex(0, minusZero))}
	terms := []string{"\x00", "\x00" + one, "\x02" + one, "\x01" + one + one, "\x12" + strings.Repeat(one, 18), "\xff" + strings.Repeat(one, 255), "\xff" + one, ""}
	for _, zero := range zeros {
		terms = append(terms, "\x02"+one+zero, "\x02"+zero+zero, "\x11"+strings.Repeat(one, 16)+zero)
	}
	for _, x := range infinities() {
		terms = append(terms, "\x01"+pairBytes(x), "\x02"+pairBytes(x)+one, "\x02"+one+pairBytes(x))
	}
	for _, poly := range terms {
		texts = append(texts, "POL1\x01a"+poly+"\x01"+number)
	}
	wholes := []string{"\x00", "\x00" + number, "\x02" + number, "\x01" + number + number, "\x12" + strings.Repeat(number, 18), "\xff" + strings.Repeat(number, 255), "\xff", "", "\x02" + number + termBytes(0), "\x02" + termBytes(0) + termBytes(0)}
	for _, n := range []int64{great + 1, -great - 1, 1 << 30, -1 << 31, 1<<31 - 1} {
		wholes = append(wholes, "\x01"+termBytes(n), "\x02"+termBytes(n)+number, "\x02"+number+termBytes(n))
	}
	for _, w := range wholes {
		texts = append(texts, "POL1\x01a\x01"+one+w)
	}
	return texts
}

func TestWrongPartsAreNotLoaded(t *testing.T) {
	for _, body := range sealedParts() {
		got, ok := impl.LoadSaved(sealed(body))
		wantNoSaved(t, plain("LoadSaved ", []byte(body)), got, ok)
		list, size, ok := impl.RecoverAll(sealed(body))
		wantRecovered(t, plain("RecoverAll ", []byte(body)), list, size, ok, nil)
	}
	for _, text := range append(strangeTexts(), "POL1", "POL1\x01", "POL1\x01a", sealed(""), sealed("POL1"), sealed("POL1\x01a"), sealed("POL1\x01a\x01")) {
		got, ok := impl.LoadSaved(text)
		wantNoSaved(t, plain("LoadSaved ", []byte(text)), got, ok)
		list, size, ok := impl.RecoverAll(text)
		wantRecovered(t, plain("RecoverAll ", []byte(text)), list, size, ok, nil)
	}
}

func TestCheckNumbersAreLooked(t *testing.T) {
	stored := storedAs(savedOf("abc", polyOf(1, 2), whole(3, 4)))
	body := stored[:len(stored)-2]
	for high := range 256 {
		for _, low := range []int{0, 1, int(stored[len(stored)-2]), 255} {
			text := body + string([]byte{byte(low), byte(high)})
			got, ok := impl.LoadSaved(text)
			if text == stored {
				wantSaved(t, "LoadSaved", got, ok, savedOf("abc", polyOf(1, 2), whole(3, 4)))
			} else {
				wantNoSaved(t, plain("LoadSaved with the check number ", low, " and ", high), got, ok)
			}
		}
	}
}

func TestStoreAll(t *testing.T) {
	valid := validSaved()
	for n := range impl.MaxSaved + 1 {
		want := ""
		for _, s := range valid[n : 2*n] {
			want += storedAs(s)
		}
		got, ok := impl.StoreAll(valid[n : 2*n])
		wantText(t, plain("StoreAll ", n), got, ok, want)
	}
	for _, n := range []int{impl.MaxSaved + 1, 20} {
		got, ok := impl.StoreAll(valid[:n])
		wantNoText(t, plain("StoreAll ", n), got, ok)
	}
	for _, wrong := range invalidSaved() {
		for at := range 3 {
			list := append([]impl.Saved{}, valid[:3]...)
			list[at] = wrong
			got, ok := impl.StoreAll(list)
			wantNoText(t, plain("StoreAll ", list), got, ok)
		}
		got, ok := impl.StoreAll([]impl.Saved{wrong})
		wantNoText(t, plain("StoreAll ", wrong), got, ok)
	}
}

func wantRecovered(t *testing.T, what string, got []impl.Saved, size int64, ok bool, want []impl.Saved) {
	t.Helper()
	bytes := 0
	same := len(got) == len(want)
	for i, s := range want {
		bytes += len(storedAs(s))
		same = same && sameSaved(got[i], s)
	}
	if !ok || !same || size != int64(bytes) {
		t.Errorf("%s: got %v, %d, %v, want %v, %d", what, got, size, ok, want, bytes)
	}
}

func TestRecoverAll(t *testing.T) {
	valid := validSaved()
	for n := range impl.MaxSaved + 4 {
		text := ""
		for _, s := range valid[:n] {
			text += storedAs(s)
		}
		most := valid[:min(n, impl.MaxSaved)]
		for _, behind := range []string{"", "x", "POL1", "\x00", storedAs(valid[0])[:20], sealed("POL1\x00"), strings.Repeat("\xff", 300)} {
			got, size, ok := impl.RecoverAll(text + behind)
			wantRecovered(t, plain("RecoverAll ", n, " and ", []byte(behind)), got, size, ok, most)
		}
		for _, before := range []string{"x", "\x00", "POL1"} {
			got, size, ok := impl.RecoverAll(before + text)
			wantRecovered(t, plain("RecoverAll ", n, " behind ", before), got, size, ok, nil)
		}
	}
}

// TestCutAndBentTextsAreRecovered has all places, of three ones.
func TestCutAndBentTextsAreRecovered(t *testing.T) {
	list := []impl.Saved{savedOf("a", polyOf(1), whole(-1)), savedOf("bcd", polyOf(2, complex(0, -1)), whole(3, 4)), savedOf("z", polyOf(0), whole(0))}
	text, ends := "", []int{}
	for _, s := range list {
		text += storedAs(s)
		ends = append(ends, len(text))
	}
	for at := range len(text) {
		whole := 0
		for whole < len(ends) && ends[whole] <= at {
			whole++
		}
		got, size, ok := impl.RecoverAll(text[:at])
		wantRecovered(t, plain("RecoverAll the first ", at), got, size, ok, list[:whole])
		for _, change := range []byte{1, 16, 128, 255} {
			got, size, ok = impl.RecoverAll(text[:at] + string([]byte{text[at] ^ change}) + text[at+1:])
			wantRecovered(t, plain("RecoverAll with another byte at ", at), got, size, ok, list[:whole])
		}
	}
	got, size, ok := impl.RecoverAll(text)
	wantRecovered(t, "RecoverAll", got, size, ok, list)
}
