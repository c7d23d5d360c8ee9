package ticks_test

import (
	"math"
	"math/rand"
	"slices"
	"testing"

	"reeve/api"
	"reeve/ticks"
)

func made(t *testing.T, n int, bound int64) *ticks.Clocks {
	t.Helper()
	c, e := ticks.New(n, bound)
	if e != api.OK || c == nil {
		t.Fatalf("New(%d, %d) = %v, %v", n, bound, c, e)
	}
	return c
}

func wantTick(t *testing.T, c *ticks.Clocks, node int, by int64, e api.Errno) {
	t.Helper()
	if got := c.Tick(node, by); got != e {
		t.Fatalf("Tick(%d, %d) = %v, want %v", node, by, got, e)
	}
}

// wantHas: the time of each clock, and what follows from them; within is what is to be kept of those that were.
func wantHas(t *testing.T, c *ticks.Clocks, within bool, times ...int64) {
	t.Helper()
	if n := c.Len(); n != len(times) {
		t.Fatalf("Len = %d, want %d", n, len(times))
	}
	for node, is := range times {
		if got, e := c.At(node); got != is || e != api.OK {
			t.Fatalf("At(%d) = %d, %v, want %d", node, got, e, is)
		}
	}
	if got, is := c.Apart(), slices.Max(times)-slices.Min(times); got != is {
		t.Fatalf("Apart = %d, want %d (%v)", got, is, times)
	}
	if got := c.Within(); got != within {
		t.Fatalf("Within = %v (%v)", got, times)
	}
}

// The chapter's example.
func TestExample(t *testing.T) {
	c := made(t, 2, 3)
	wantTick(t, c, 0, 3, api.OK)
	wantHas(t, c, true, 3, 0)
	wantTick(t, c, 0, 1, api.OK)
	wantHas(t, c, false, 4, 0)
	wantTick(t, c, 1, 9, api.OK)
	wantHas(t, c, false, 4, 9)
	if n := c.Apart(); n != 5 {
		t.Errorf("Apart = %d", n)
	}
}

// P9.1: which numbers of clocks, and which bounds, may be.
func TestNew(t *testing.T) {
	numbers := map[int]bool{1: true, 2: true, 7: true, 127: true, 128: true,
		0: false, 129: false, 256: false, -1: false, -128: false, math.MinInt: false, math.MaxInt: false}
	bounds := map[int64]bool{0: true, 1: true, 9: true, api.MaxTime - 1: true, api.MaxTime: true,
		-1: false, api.MaxTime + 1: false, -api.MaxTime: false, math.MinInt64: false, math.MaxInt64: false}
	for n, may := range numbers {
		for bound, mayToo := range bounds {
			if may && mayToo {
				wantHas(t, made(t, n, bound), true, make([]int64, n)...)
				continue
			}
			if c, e := ticks.New(n, bound); c != nil || e != api.ErrArg {
				t.Errorf("New(%d, %d) = %v, %v", n, bound, c, e)
			}
		}
	}
}

// P9.2, R3: neither nil nor what New did not make has clocks; that is told ahead of all else.
func TestNoClocks(t *testing.T) {
	refused, _ := ticks.New(0, 0)
	for what, c := range map[string]*ticks.Clocks{"nil": nil, "zero": {}, "refused": refused} {
		for _, node := range []int{0, 1, -1, math.MaxInt} {
			for _, by := range []int64{0, 1, -1, api.MaxTime + 1} {
				if e := c.Tick(node, by); e != api.ErrNil {
					t.Errorf("%s: Tick(%d, %d) = %v", what, node, by, e)
				}
			}
			if n, e := c.At(node); n != 0 || e != api.ErrNil {
				t.Errorf("%s: At(%d) = %d, %v", what, node, n, e)
			}
		}
		if c.Apart() != 0 || c.Within() || c.Len() != 0 {
			t.Errorf("%s: Apart, Within, Len = %d, %v, %d", what, c.Apart(), c.Within(), c.Len())
		}
	}
}

// P9.2: each error, the first of several, and that none of them changes anything.
func TestErrors(t *testing.T) {
	c := made(t, 3, 5)
	wantTick(t, c, 0, 4, api.OK)
	wantTick(t, c, 2, 2, api.OK)
	for _, node := range []int{-1, 3, 4, 128, math.MinInt, math.MaxInt} {
		for _, by := range []int64{0, 1, -1, api.MaxTime, api.MaxTime + 1, math.MinInt64, math.MaxInt64} {
			wantTick(t, c, node, by, api.ErrNone)
		}
		if n, e := c.At(node); n != 0 || e != api.ErrNone {
			t.Errorf("At(%d) = %d, %v", node, n, e)
		}
		wantHas(t, c, true, 4, 0, 2)
	}
	for node := range 3 {
		for _, by := range []int64{-1, -2, -4, -api.MaxTime, math.MinInt64, api.MaxTime + 1, math.MaxInt64 - 3, math.MaxInt64} {
			wantTick(t, c, node, by, api.ErrArg)
			wantHas(t, c, true, 4, 0, 2)
		}
	}
	for _, by := range []int64{api.MaxTime, api.MaxTime - 1, api.MaxTime - 3} {
		wantTick(t, c, 0, by, api.ErrOver)
		wantHas(t, c, true, 4, 0, 2)
	}
	wantTick(t, c, 2, api.MaxTime-1, api.ErrOver)
	wantHas(t, c, true, 4, 0, 2)
}

// P9.2: a clock goes up to MaxTime, at once and bit by bit, and stands there.
func TestGreatestTime(t *testing.T) {
	c := made(t, 3, api.MaxTime)
	wantTick(t, c, 0, api.MaxTime, api.OK)
	wantTick(t, c, 1, api.MaxTime-4, api.OK)
	wantTick(t, c, 1, 4, api.OK)
	wantTick(t, c, 2, 4, api.OK)
	wantTick(t, c, 2, api.MaxTime-4, api.OK)
	for node := range 3 {
		for _, by := range []int64{1, 2, api.MaxTime} {
			wantTick(t, c, node, by, api.ErrOver)
		}
		wantTick(t, c, node, api.MaxTime+1, api.ErrArg)
		wantTick(t, c, node, 0, api.OK)
	}
	wantHas(t, c, true, api.MaxTime, api.MaxTime, api.MaxTime)
}

// P9.2: at the bound they are within it, one tick beyond they are not; which clocks those are does not matter.
func TestBound(t *testing.T) {
	for _, bound := range []int64{0, 1, 2, 1000, api.MaxTime - 1, api.MaxTime} {
		for _, n := range []int{2, 3, api.MaxClocks} {
			for _, node := range []int{0, 1, n - 1} {
				c := made(t, n, bound)
				times := make([]int64, n)
				wantTick(t, c, node, bound, api.OK)
				times[node] = bound
				wantHas(t, c, true, times...)
				if bound == api.MaxTime {
					continue
				}
				wantTick(t, c, node, 1, api.OK)
				times[node]++
				wantHas(t, c, false, times...)
			}
		}
	}
	alone := made(t, 1, 0)
	wantTick(t, alone, 0, api.MaxTime, api.OK)
	wantHas(t, alone, true, api.MaxTime)
}

// P9.2: who was once too far from the others is not within the bound again.
func TestNotAgain(t *testing.T) {
	c := made(t, 2, 3)
	wantTick(t, c, 1, 4, api.OK)
	wantTick(t, c, 0, 4, api.OK)
	wantHas(t, c, false, 4, 4)
	wantTick(t, c, 0, 0, api.OK)
	wantTick(t, c, 0, 1, api.OK)
	wantHas(t, c, false, 5, 4)
	behind := made(t, 3, 3) // the last one is left behind
	for _, node := range []int{0, 1, 0, 1} {
		wantTick(t, behind, node, 2, api.OK)
	}
	wantHas(t, behind, false, 4, 4, 0)
	wantTick(t, behind, 2, 4, api.OK)
	wantHas(t, behind, false, 4, 4, 4)
}

// R6: what becomes of some clocks changes nothing of others.
func TestApartFromOthers(t *testing.T) {
	a, b := made(t, 2, 3), made(t, 2, 7)
	wantTick(t, a, 0, 5, api.OK)
	wantHas(t, a, false, 5, 0)
	wantHas(t, b, true, 0, 0)
	wantTick(t, b, 1, 7, api.OK)
	wantHas(t, b, true, 0, 7)
	wantHas(t, a, false, 5, 0)
}

// someTicks: few or many ticks by chance, also some that may not be.
func someTicks(r *rand.Rand, bound int64) int64 {
	switch r.Intn(20) {
	case 0:
		return r.Int63n(api.MaxTime + 9)
	case 1:
		return int64(r.Intn(9)) - 8
	case 2:
		return api.MaxTime + int64(r.Intn(3)) - 1
	case 3, 4:
		return r.Int63n(bound + 2)
	}
	return int64(r.Intn(3))
}

// P9.2, P9.3: by chance: no clock goes back, and within the bound none is farther away from any other.
func TestByChance(t *testing.T) {
	r := rand.New(rand.NewSource(1))
	errors := map[api.Errno]int{}
	for range 300 {
		n := []int{1, 2, 3, 7, api.MaxClocks}[r.Intn(5)]
		bound := []int64{0, 1, 5, 40, api.MaxTime / 2}[r.Intn(5)]
		c, times, within := made(t, n, bound), make([]int64, n), true
		for range 100 {
			node, by := r.Intn(n+2)-1, someTicks(r, bound)
			was, _ := c.At(node)
			e := c.Tick(node, by)
			errors[e]++
			if is, _ := c.At(node); is < was {
				t.Fatalf("Tick(%d, %d): from %d back to %d", node, by, was, is)
			}
			if e == api.OK {
				times[node] += by
			}
			within = within && slices.Max(times)-slices.Min(times) <= bound
			wantHas(t, c, within, times...)
			wantNear(t, c, r.Intn(n), bound)
		}
	}
	for _, e := range []api.Errno{api.OK, api.ErrNone, api.ErrArg, api.ErrOver} {
		if errors[e] == 0 {
			t.Errorf("%v was never told", e)
		}
	}
}

// wantNear: as long as the clocks are within the bound, what one tells holds of each other one.
func wantNear(t *testing.T, c *ticks.Clocks, node int, bound int64) {
	t.Helper()
	if !c.Within() {
		return
	}
	one, _ := c.At(node)
	for n := range c.Len() {
		if other, _ := c.At(n); other < one-bound || other > one+bound {
			t.Fatalf("clocks at %d and %d are within %d", one, other, bound)
		}
	}
}
