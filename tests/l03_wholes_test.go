package tests

import (
	"math"
	"testing"

	"loop.example/g01358/impl"
)

func TestValidWhole(t *testing.T) {
	for _, p := range validWholes() {
		if !impl.ValidWhole(p) {
			t.Errorf("%v is not valid", p)
		}
	}
	for _, p := range invalidWholes() {
		if impl.ValidWhole(p) {
			t.Errorf("%v is valid", p)
		}
	}
}

func TestSameWhole(t *testing.T) {
	all := append(validWholes(), invalidWholes()...)
	for i, a := range all {
		for k, b := range all {
			if want := plain(a) == plain(b); impl.SameWhole(a, b) != want {
				t.Errorf("SameWhole of %d and %d, %v and %v, is %v", i, k, a, b, !want)
			}
		}
	}
	long, other := repeated[int64](5, 300), repeated[int64](5, 300)
	if !impl.SameWhole(whole(long...), whole(other...)) || impl.SameWhole(whole(long...), whole(long[:299]...)) {
		t.Errorf("wholes of 300 terms are not told apart")
	}
	other[299] = 6
	if impl.SameWhole(whole(long...), whole(other...)) {
		t.Errorf("wholes with other terms at the end are the same")
	}
}

func TestWholeFrom(t *testing.T) {
	cases := []struct{ terms, want []int64 }{
		{[]int64{1, 2, 0}, []int64{1, 2}},
		{[]int64{1, 2}, []int64{1, 2}},
		{[]int64{0}, []int64{0}},
		{[]int64{0, 0, 0}, []int64{0}},
		{[]int64{7}, []int64{7}},
		{[]int64{-7, 0}, []int64{-7}},
		{[]int64{0, 0, 3, 0, 0}, []int64{0, 0, 3}},
		{[]int64{great, -great}, []int64{great, -great}},
		{repeated[int64](1, 17), repeated[int64](1, 17)},
		{append(repeated[int64](1, 17), 0), repeated[int64](1, 17)},
		{append([]int64{4}, make([]int64, 300)...), []int64{4}},
		{make([]int64, 300), []int64{0}},
	}
	for _, c := range cases {
		got, ok := impl.WholeFrom(c.terms)
		wantWhole(t, plain("WholeFrom ", c.terms), got, ok, c.want...)
	}
	wrong := [][]int64{
		nil, {}, {great + 1}, {-great - 1}, {1, great + 1, 0}, {great + 1, 0, 1}, {math.MinInt64}, {math.MaxInt64, 1},
		repeated[int64](1, 18), append(make([]int64, 17), 1), append(make([]int64, 17), 1, 0), repeated[int64](1, 300),
	}
	for _, terms := range wrong {
		got, ok := impl.WholeFrom(terms)
		wantNoWhole(t, plain("WholeFrom ", terms), got, ok)
	}
}

type weighCase struct {
	a, b impl.Whole
	x, y int64
	want []int64
}

func TestAddWholes(t *testing.T) {
	cases := []weighCase{
		{whole(1, 1), whole(1, 1), 1, -1, []int64{0}},
		{whole(1, 2, 3), whole(4, 5), 10, 100, []int64{410, 520, 30}},
		{whole(4, 5), whole(1, 2, 3), 100, 10, []int64{410, 520, 30}},
		{whole(1, 2, 3), whole(0, 1, 1), 1, -3, []int64{1, -1}},
		{whole(7), whole(0), -1, 5, []int64{-7}},
		{whole(0), whole(0), 1000, -1000, []int64{0}},
		{whole(3, 4), whole(5, 6, 7), 0, 0, []int64{0}},
		{whole(1000, -1000), whole(1), 1000, 0, []int64{great, -great}},
		{whole(great, 1), whole(great, 2), 1, -1, []int64{0, -1}},
		{whole(great, 1), whole(great, 1), 1000, -1000, []int64{0}},
		{whole(great, 1), whole(great, 1), 1000, -999, []int64{great, 1}},
		{whole(great - 1), whole(1), 1, 1, []int64{great}},
		{wholeOnes(17), wholePower(16, 1), 1, -1, repeated[int64](1, 16)},
		{whole(repeated[int64](great, 17)...), whole(repeated[int64](-great, 17)...), 1, 1, []int64{0}},
	}
	for _, c := range cases {
		got, ok := impl.AddWholes(c.a, c.b, c.x, c.y)
		wantWhole(t, plain("AddWholes ", c), got, ok, c.want...)
	}
	wrong := []weighCase{
		{whole(1), whole(1), 1001, 1, nil}, {whole(1), whole(1), -1001, 1, nil}, {whole(1), whole(1), 1, 1001, nil}, {whole(1), whole(1), 1, -1001, nil},
		{whole(0), whole(0), math.MinInt64, 1, nil}, {whole(0), whole(0), 1, math.MaxInt64, nil},
		{whole(great), whole(1), 1, 1, nil}, {whole(-great, 1), whole(-1), 1, 1, nil}, {whole(1001), whole(0), 1000, 0, nil}, {whole(0, 0, great), whole(0, 0, great), 1, 1, nil},
		{whole(great, 1), whole(great-1, 1), 1000, -999, nil},
	}
	for _, c := range wrong {
		got, ok := impl.AddWholes(c.a, c.b, c.x, c.y)
		wantNoWhole(t, plain("AddWholes ", c), got, ok)
	}
}

func TestMulWholes(t *testing.T) {
	cases := []struct {
		a, b impl.Whole
		want []int64
	}{
		{whole(1, 1), whole(1, 1), []int64{1, 2, 1}},
		{whole(-1, 1), whole(1, 1), []int64{-1, 0, 1}},
		{whole(3, 2), whole(5, 0, 4), []int64{15, 10, 12, 8}},
		{whole(7), whole(-6), []int64{-42}},
		{whole(0), whole(5, 1), []int64{0}},
		{whole(0), whole(0), []int64{0}},
		{wholeOnes(17), whole(0), []int64{0}},
		{whole(0), wholePower(16, great), []int64{0}},
		{whole(1), wholeOnes(17), repeated[int64](1, 17)},
		{wholePower(8, 1000), wholePower(8, -1000), wholePower(16, -great).Terms},
		{whole(-1, 1), wholeOnes(16), append(append([]int64{-1}, make([]int64, 15)...), 1)},
		{whole(500, 500), whole(1000, 1000), []int64{500000, great, 500000}},
		{whole(great, -great), whole(-1), []int64{-great, great}},
	}
	for _, c := range cases {
		for range 2 {
			got, ok := impl.MulWholes(c.a, c.b)
			wantWhole(t, plain("MulWholes ", c.a, c.b), got, ok, c.want...)
			c.a, c.b = c.b, c.a
		}
	}
	wrong := []struct{ a, b impl.Whole }{
		{wholePower(8, 1), wholePower(9, 1)}, {wholePower(16, 1), whole(0, 1)}, {wholeOnes(17), wholeOnes(17)},
		{whole(1000), whole(1001)}, {whole(-1000), whole(1001)}, {whole(500, 500), whole(1000, 1001)}, {whole(great), whole(great)},
		{whole(repeated[int64](great, 17)...), whole(repeated[int64](great, 17)...)},
	}
	for _, c := range wrong {
		for range 2 {
			got, ok := impl.MulWholes(c.a, c.b)
			wantNoWhole(t, plain("MulWholes ", c.a, c.b), got, ok)
			c.a, c.b = c.b, c.a
		}
	}
}

type placeCase struct {
	p       impl.Whole
	x, want int64
}

func TestWholeAt(t *testing.T) {
	cases := []placeCase{
		{whole(1, 2, 1), 2, 9},
		{whole(5), 1000, 5},
		{whole(-great), -1000, -great},
		{whole(0), 77, 0},
		{whole(4, 3, 2), 0, 4},
		{whole(4, 3, 2), -1, 3},
		{whole(4, 3, 2), -1000, 2*great - 3000 + 4},
		{wholeOnes(17), 1, 17},
		{wholePower(16, great), -1, great},
		{wholePower(5, 1), 1000, 1000000000000000},
		{wholePower(5, 1), -1000, -1000000000000000},
		{wholePower(3, great), 1000, 1000000000000000},
		{whole(-1, 0, 0, great), 1000, 999999999999999},
		{whole(0, -1, 1, 0, 0, 1), -10, -99890},
		{wholeOnes(17), 8, 321685687669321},
	}
	for _, c := range cases {
		got, ok := impl.WholeAt(c.p, c.x)
		wantInteger(t, plain("WholeAt ", c.p, c.x), got, ok, c.want)
	}
	// 16 to the power of 16 is 0 for 64 bits.
	wrong := []placeCase{
		{whole(1), 1001, 0}, {whole(1), -1001, 0}, {whole(0), math.MaxInt64, 0}, {whole(0), math.MinInt64, 0},
		{whole(1, 0, 0, great), 1000, 0}, {whole(1, 0, 0, 0, 0, 1), 1000, 0}, {whole(-1, 0, 0, 0, 0, 1), -1000, 0},
		{wholePower(6, 1), 1000, 0}, {wholePower(16, 1), 16, 0}, {wholeOnes(17), 9, 0}, {wholePower(16, great), 1000, 0}, {wholePower(16, -great), -1000, 0},
		{whole(-great, 0, 0, 0, 0, 0, 1), -1000, 0},
	}
	for _, c := range wrong {
		got, ok := impl.WholeAt(c.p, c.x)
		wantNoInteger(t, plain("WholeAt ", c.p, c.x), got, ok)
	}
}

func TestSlopeWhole(t *testing.T) {
	cases := []struct {
		p    impl.Whole
		want []int64
	}{
		{whole(1, 2, 1), []int64{2, 2}},
		{whole(5), []int64{0}},
		{whole(0), []int64{0}},
		{whole(-great), []int64{0}},
		{whole(5, -3), []int64{-3}},
		{whole(5, great), []int64{great}},
		{whole(5, 0, 0, 4), []int64{0, 0, 12}},
		{whole(0, 0, great/2), []int64{0, great}},
		{wholePower(16, -62500), wholePower(15, -great).Terms},
		{wholeOnes(17), []int64{1, 2, 3, 4, 5, 6, 7, 8, 9, 10, 11, 12, 13, 14, 15, 16}},
	}
	for _, c := range cases {
		got, ok := impl.SlopeWhole(c.p)
		wantWhole(t, plain("SlopeWhole ", c.p), got, ok, c.want...)
	}
	for _, p := range []impl.Whole{whole(0, 0, great/2+1), wholePower(16, 62501), wholePower(16, -62501), whole(0, 0, -great, 1), wholePower(16, great)} {
		got, ok := impl.SlopeWhole(p)
		wantNoWhole(t, plain("SlopeWhole ", p), got, ok)
	}
}

func TestContentAndPrimitive(t *testing.T) {
	cases := []struct {
		p       impl.Whole
		content int64
		want    []int64
	}{
		{whole(-4, 6), 2, []int64{-2, 3}},
		{whole(4, -6), 2, []int64{-2, 3}},
		{whole(-4, -6), 2, []int64{2, 3}},
		{whole(0), 0, []int64{0}},
		{whole(5), 5, []int64{1}},
		{whole(-5), 5, []int64{1}},
		{whole(1), 1, []int64{1}},
		{whole(-great), great, []int64{1}},
		{whole(0, 0, -7), 7, []int64{0, 0, 1}},
		{whole(0, 6, 0, 10, 15), 1, []int64{0, 6, 0, 10, 15}},
		{whole(great, 0, -great), great, []int64{-1, 0, 1}},
		{whole(great, great-1), 1, []int64{great, great - 1}},
		{whole(12, -18, 0, 30), 6, []int64{2, -3, 0, 5}},
		{whole(repeated[int64](-great, 17)...), great, repeated[int64](1, 17)},
	}
	for _, c := range cases {
		content, ok := impl.ContentOf(c.p)
		wantInteger(t, plain("ContentOf ", c.p), content, ok, c.content)
		primitive, ok := impl.PrimitiveOf(c.p)
		wantWhole(t, plain("PrimitiveOf ", c.p), primitive, ok, c.want...)
	}
}
