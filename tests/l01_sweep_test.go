package tests

import (
	"testing"

	"loop.example/g01358/impl"
)

const sweepRounds = 20000

// sweepCase calls a function with numbers that draw gives.
type sweepCase struct {
	name string
	want digest
	call func(d *digest, draw func() float32)
}

// The digests were told by a program that was written apart from this one, in
// another language, from the document alone.
func sweepCases() []sweepCase {
	return []sweepCase{
		{"SineTurns", 0x5b01e74874b88831, func(d *digest, draw func() float32) { d.float(impl.SineTurns(draw())) }},
		{"AngleTurns", 0xebfbb895776de29b, func(d *digest, draw func() float32) {
			y := draw()
			d.float(impl.AngleTurns(y, draw()))
		}},
		{"LogNumber", 0x31866b7f7f00cbc, func(d *digest, draw func() float32) { d.float(impl.LogNumber(draw())) }},
		{"ExpNumber", 0x3b024d095375fb68, func(d *digest, draw func() float32) { d.float(impl.ExpNumber(draw())) }},
		{"TenthsOf", 0x82f2da8ea5daceee, func(d *digest, draw func() float32) {
			tenths, ok := impl.TenthsOf(draw())
			d.add(uint64(tenths))
			if ok {
				d.add(1)
			}
		}},
		{"RootNumber", 0x6aaec201e3d8fdd7, func(d *digest, draw func() float32) { d.float(impl.RootNumber(draw())) }},
		{"MulComplex", 0xa64396cb528ed82d, func(d *digest, draw func() float32) {
			x := pairOf(draw)
			d.pair(impl.MulComplex(x, pairOf(draw)))
		}},
		{"QuotientOf", 0x47be5ad1a7870e86, func(d *digest, draw func() float32) {
			x := pairOf(draw)
			d.pair(impl.QuotientOf(x, pairOf(draw)))
		}},
		{"ScaleComplex", 0x8e7d8e3649a2198d, func(d *digest, draw func() float32) {
			x := pairOf(draw)
			d.pair(impl.ScaleComplex(x, draw()))
		}},
		{"PowerOf", 0xb1e7157e2cf0f711, func(d *digest, draw func() float32) { d.float(impl.PowerOf(pairOf(draw))) }},
		{"LongOf", 0x64d2edd40701d750, func(d *digest, draw func() float32) { d.float(impl.LongOf(pairOf(draw))) }},
	}
}

func pairOf(draw func() float32) complex64 {
	re := draw()
	return complex(re, draw())
}

func TestSweeps(t *testing.T) {
	for _, c := range sweepCases() {
		s := &sweep{}
		d := digest(0)
		for range sweepRounds {
			c.call(&d, s.small)
			c.call(&d, s.any)
		}
		if d != c.want {
			t.Errorf("%s: digest %#x, want %#x", c.name, uint64(d), uint64(c.want))
		}
	}
}

func TestPhasorSweep(t *testing.T) {
	s := &sweep{}
	d := digest(0)
	for range sweepRounds {
		d.pair(impl.PhasorOf(s.wide()))
	}
	if want := digest(0xa790046074490f11); d != want {
		t.Errorf("PhasorOf: digest %#x, want %#x", uint64(d), uint64(want))
	}
}
