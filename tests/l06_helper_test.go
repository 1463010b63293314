package tests

import (
	"math"

	"loop.example/g01358/impl"
)

// beside is the number after x, away from 0.
func beside(x float32) float32 {
	return math.Float32frombits(math.Float32bits(x) + 1)
}

// by divides 32-bit numbers. A quotient of constants could be told exactly.
func by(x, y float32) float32 {
	return x / y
}

// noPointLists are lists for which every function of points fails.
func noPointLists() [][]complex64 {
	lists := [][]complex64{
		nil, {}, stepsBy(1, impl.MaxTerms+1), stepsBy(1, 300), repeated[complex64](1, 2), repeated[complex64](1, impl.MaxTerms),
		{0, 0}, {0, minusBoth}, {complex(1, minusZero), 1}, {complex(minusZero, 1), complex(plusZero, 1)}, {1, 2, 1}, {1, 2, 2}, {2, 2, 1},
		append(stepsBy(1, impl.MaxTerms-1), 0), append(stepsBy(1, impl.MaxTerms-1), impl.MaxTerms-2),
	}
	for _, x := range infinities() {
		lists = append(lists, []complex64{x}, []complex64{2, x}, []complex64{x, 2}, []complex64{2, x, 3})
	}
	return lists
}

// noKinds and noMembers have one beyond each limit, and those far away.
func noKinds() []int64 {
	return []int64{-1, impl.MaxKinds, impl.MaxKinds + 1, 1 << 32, -1 << 32, math.MinInt64, math.MaxInt64}
}

func noMembers() []int64 {
	return []int64{-1, impl.MaxTerms, impl.MaxTerms + 1, 1 << 32, -1 << 32, math.MinInt64, math.MaxInt64}
}

// notFinite are numbers that no function of chapter 6 takes.
func notFinite() []float32 {
	return []float32{plusInf, minusInf, nan, oddNaN, quietNaN}
}

// asPairs returns complex numbers with these real parts.
func asPairs(list []float32) []complex64 {
	pairs := make([]complex64, len(list))
	for i, x := range list {
		pairs[i] = complex(x, 0)
	}
	return pairs
}

func realPoly(terms ...float32) impl.Poly {
	return polyOf(asPairs(terms)...)
}
