package vec

import (
	"math/bits"

	"reeve/api"
)

// wide is a number on the way: its low word, its high word, in two's complement.
// Two words are enough: a product of two numbers of int64 is at most 2^126, and a list that memory has room for sums up to less than that.
type wide [2]uint64

const (
	low  = 0
	high = 1
)

// triple is a vec whose numbers are still on the way: cpu, mem, disk.
type triple [3]wide

// beside does the same with each of the three numbers of a and of b.
func beside(a, b triple, do func(a, b wide) wide) triple {
	var out triple
	for i := range out {
		out[i] = do(a[i], b[i])
	}
	return out
}

func widen(v api.Vec) triple {
	return triple{wideOf(v.Cpu), wideOf(v.Mem), wideOf(v.Disk)}
}

// narrow answers ErrOver, and no number at all, if int64 has not all three.
func (t triple) narrow() (api.Vec, api.Errno) {
	for _, w := range t {
		if wideOf(w.word()) != w {
			return api.Vec{}, api.ErrOver
		}
	}
	return api.Vec{Cpu: t[0].word(), Mem: t[1].word(), Disk: t[2].word()}, api.OK
}

func wideOf(n int64) wide {
	// The shift repeats the sign, so that the high word of a negative number is all ones.
	return wide{low: uint64(n), high: uint64(n >> 63)}
}

// word is the number itself only if int64 has it.
func (w wide) word() int64 {
	return int64(w[low])
}

func (w wide) negative() bool {
	return int64(w[high]) < 0
}

func (w wide) plus(x wide) wide {
	l, carry := bits.Add64(w[low], x[low], 0)
	h, _ := bits.Add64(w[high], x[high], carry)
	return wide{low: l, high: h}
}

func (w wide) minus(x wide) wide {
	l, borrow := bits.Sub64(w[low], x[low], 0)
	h, _ := bits.Sub64(w[high], x[high], borrow)
	return wide{low: l, high: h}
}

func (w wide) times(x wide) wide {
	h, l := bits.Mul64(w[low], x[low])
	// High by high is beyond two words, where wrapping round drops it.
	return wide{low: l, high: h + w[low]*x[high] + w[high]*x[low]}
}

func (w wide) greater(x wide) wide {
	if w.minus(x).negative() {
		return x
	}
	return w
}

func (w wide) lesser(x wide) wide {
	if w.minus(x).negative() {
		return w
	}
	return x
}
