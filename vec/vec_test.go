package vec_test

import (
	"math"
	"math/big"
	"slices"
	"testing"

	"reeve/api"
	"reeve/vec"
)

const (
	most  = math.MaxInt64
	least = math.MinInt64
)

func of(cpu, mem, disk int64) api.Vec {
	return api.Vec{Cpu: cpu, Mem: mem, Disk: disk}
}

func numbers(v api.Vec) [3]int64 {
	return [3]int64{v.Cpu, v.Mem, v.Disk}
}

// at has n as its i-th number, and rest as the two others.
func at(i int, n, rest int64) api.Vec {
	row := [3]int64{rest, rest, rest}
	row[i] = n
	return of(row[0], row[1], row[2])
}

// edges are numbers about which answers change: around 0, MaxRes, half words and whole ones.
func edges() []int64 {
	out := []int64{0}
	for _, n := range []int64{1, 2, 3, 7, 1<<31 - 1, 1 << 31, 1<<32 - 1, 1 << 32, 1<<32 + 1, 3037000499, 3037000500, api.MaxRes - 1, api.MaxRes, api.MaxRes + 1, 1<<62 - 1, 1 << 62, 1<<62 + 1, most - 1, most} {
		out = append(out, n, -n)
	}
	return append(out, least)
}

// exact answers what whole numbers without bounds make of it, and whether int64 has it.
func exact(do func(z, x, y *big.Int) *big.Int, a, b int64) (int64, bool) {
	z := do(new(big.Int), big.NewInt(a), big.NewInt(b))
	return z.Int64(), z.IsInt64()
}

// vecOf3 asks exact for each of the three numbers; ErrOver, and zeros, if one is too great.
func vecOf3(do func(z, x, y *big.Int) *big.Int, a, b api.Vec) (api.Vec, api.Errno) {
	var out [3]int64
	for i, n := range numbers(a) {
		r, ok := exact(do, n, numbers(b)[i])
		if !ok {
			return api.Vec{}, api.ErrOver
		}
		out[i] = r
	}
	return of(out[0], out[1], out[2]), api.OK
}

func same(t *testing.T, what string, got api.Vec, gotErr api.Errno, want api.Vec, wantErr api.Errno) {
	t.Helper()
	if got != want || gotErr != wantErr {
		t.Errorf("%s: got %v %v, want %v %v", what, got, gotErr, want, wantErr)
	}
}

// P1.1
func TestMay(t *testing.T) {
	for _, v := range []api.Vec{{}, of(1, 2, 3), of(api.MaxRes, api.MaxRes, api.MaxRes)} {
		if !vec.May(v) {
			t.Errorf("May(%v): got false", v)
		}
	}
	for i := range 3 {
		for _, n := range edges() {
			for _, rest := range []int64{0, 5, api.MaxRes} {
				v := at(i, n, rest)
				if got, want := vec.May(v), n >= 0 && n <= api.MaxRes; got != want {
					t.Errorf("May(%v): got %v, want %v", v, got, want)
				}
			}
		}
	}
	if vec.May(of(-1, api.MaxRes+1, -1)) {
		t.Error("May: got true where no number may be")
	}
}

// P1.1: the document's examples, and the numbers next to where int64 ends.
func TestAddSubTimesByHand(t *testing.T) {
	add := []struct {
		a, b, want api.Vec
		e          api.Errno
	}{
		{of(1, 2, 3), of(4, 5, 6), of(5, 7, 9), api.OK},
		{of(most, 0, 0), of(1, 0, 0), of(0, 0, 0), api.ErrOver},
		{of(most-1, 7, 7), of(1, -7, 1), of(most, 0, 8), api.OK},
		{of(least+1, 0, 0), of(-1, 0, 0), of(least, 0, 0), api.OK},
		{of(least, 0, 0), of(-1, 0, 0), of(0, 0, 0), api.ErrOver},
		{of(most, least, most), of(least, most, 0), of(-1, -1, most), api.OK},
	}
	for _, x := range add {
		got, e := vec.Add(x.a, x.b)
		same(t, "Add", got, e, x.want, x.e)
	}
	sub := []struct {
		a, b, want api.Vec
		e          api.Errno
	}{
		{of(5, 7, 9), of(4, 5, 6), of(1, 2, 3), api.OK},
		{of(4, 5, 6), of(5, 7, 9), of(-1, -2, -3), api.OK},
		{of(0, 0, 0), of(least, 0, 0), of(0, 0, 0), api.ErrOver},
		{of(-1, 0, 0), of(least, 0, 0), of(most, 0, 0), api.OK},
		{of(-2, 0, 0), of(most, 0, 0), of(0, 0, 0), api.ErrOver},
		{of(-1, 0, 0), of(most, 0, 0), of(least, 0, 0), api.OK},
		{of(least, most, 0), of(least, most, 0), of(0, 0, 0), api.OK},
	}
	for _, x := range sub {
		got, e := vec.Sub(x.a, x.b)
		same(t, "Sub", got, e, x.want, x.e)
	}
	times := []struct {
		v    api.Vec
		n    int64
		want api.Vec
		e    api.Errno
	}{
		{of(1, 2, 3), 4, of(4, 8, 12), api.OK},
		{of(1, -2, 3), -4, of(-4, 8, -12), api.OK},
		{of(most, least, 9), 0, of(0, 0, 0), api.OK},
		{of(0, 0, 0), least, of(0, 0, 0), api.OK},
		{of(least, 0, 0), 1, of(least, 0, 0), api.OK},
		{of(least, 0, 0), -1, of(0, 0, 0), api.ErrOver},
		{of(most, 0, 0), -1, of(-most, 0, 0), api.OK},
		{of(1<<62, 0, 0), 2, of(0, 0, 0), api.ErrOver},
		{of(1<<62, 0, 0), -2, of(least, 0, 0), api.OK},
		{of(1<<62-1, 0, 0), 2, of(most-1, 0, 0), api.OK},
		{of(1<<32, 0, 0), 1 << 32, of(0, 0, 0), api.ErrOver},
		{of(least, 0, 0), least, of(0, 0, 0), api.ErrOver},
		{of(api.MaxRes, api.MaxRes, api.MaxRes), 64, of(1<<46, 1<<46, 1<<46), api.OK},
	}
	for _, x := range times {
		got, e := vec.Times(x.v, x.n)
		same(t, "Times", got, e, x.want, x.e)
	}
}

// P1.1: each pair of edges, in each of the three places, beside numbers that are not too great.
func TestAddSubTimesAtAllEdges(t *testing.T) {
	for i := range 3 {
		for _, a := range edges() {
			for _, b := range edges() {
				v, w := at(i, a, 6), at(i, b, 2)

				want, wantErr := vecOf3((*big.Int).Add, v, w)
				got, e := vec.Add(v, w)
				same(t, "Add", got, e, want, wantErr)

				want, wantErr = vecOf3((*big.Int).Sub, v, w)
				got, e = vec.Sub(v, w)
				same(t, "Sub", got, e, want, wantErr)

				v = at(i, a, 0)
				want, wantErr = vecOf3((*big.Int).Mul, v, of(b, b, b))
				got, e = vec.Times(v, b)
				same(t, "Times", got, e, want, wantErr)
			}
		}
	}
}

// P1.1, P1.2: with an error nothing else is told, though two of the three numbers could be.
func TestOverTellsNoNumber(t *testing.T) {
	for i := range 3 {
		v, one := at(i, most, 5), of(1, 1, 1)
		got, e := vec.Add(v, one)
		same(t, "Add", got, e, api.Vec{}, api.ErrOver)
		got, e = vec.Sub(at(i, least, 5), one)
		same(t, "Sub", got, e, api.Vec{}, api.ErrOver)
		got, e = vec.Times(v, 2)
		same(t, "Times", got, e, api.Vec{}, api.ErrOver)
		got, e = vec.Sum([]api.Vec{v, one})
		same(t, "Sum", got, e, api.Vec{}, api.ErrOver)
	}
}

// P1.2
func TestSum(t *testing.T) {
	for _, x := range []struct {
		what string
		l    []api.Vec
		want api.Vec
		e    api.Errno
	}{
		{"nil", nil, of(0, 0, 0), api.OK},
		{"none", []api.Vec{}, of(0, 0, 0), api.OK},
		{"one", []api.Vec{of(1, least, most)}, of(1, least, most), api.OK},
		{"three", []api.Vec{of(1, 2, 3), of(4, 5, 6), of(-5, 0, 1)}, of(0, 7, 10), api.OK},
		{"the document's", []api.Vec{of(most, 0, 0), of(1, 0, 0), of(-1, 0, 0)}, of(most, 0, 0), api.OK},
		{"just too great", []api.Vec{of(most, 0, 0), of(1, 0, 0)}, of(0, 0, 0), api.ErrOver},
		{"just too small", []api.Vec{of(0, least, 0), of(0, -1, 0)}, of(0, 0, 0), api.ErrOver},
		{"just the least", []api.Vec{of(0, 0, least), of(0, 0, -1), of(0, 0, 1)}, of(0, 0, least), api.OK},
		{"each by another way", []api.Vec{of(most, least, 1), of(most, least, 2), of(least, most, 3), of(least, most, 4)}, of(-2, -2, 10), api.OK},
		{"round a word up to 0", []api.Vec{of(least, 0, 0), of(least, 0, 0)}, of(0, 0, 0), api.ErrOver},
		{"round a word up to -2", []api.Vec{of(0, most, 0), of(0, most, 0)}, of(0, 0, 0), api.ErrOver},
	} {
		kept := slices.Clone(x.l)
		got, e := vec.Sum(x.l)
		same(t, "Sum of "+x.what, got, e, x.want, x.e)
		if !slices.Equal(kept, x.l) {
			t.Errorf("Sum of %s changed its argument", x.what)
		}
	}
}

// P1.2: parts on the way that are many times beyond int64, upward and downward.
func TestSumFarBeyondOnTheWay(t *testing.T) {
	const many = 1000
	var l []api.Vec
	for range many {
		l = append(l, of(most, least, 1))
	}
	got, e := vec.Sum(l)
	same(t, "Sum on the way", got, e, api.Vec{}, api.ErrOver)
	for range many {
		l = append(l, of(-most, most, 1))
	}
	got, e = vec.Sum(l)
	same(t, "Sum", got, e, of(0, -many, 2*many), api.OK)
}

// P1.2: three edges in a row, in each place.
func TestSumAtAllEdges(t *testing.T) {
	for i := range 3 {
		for _, a := range edges() {
			for _, b := range edges() {
				for _, c := range []int64{0, 1, -1, most, least} {
					sum := big.NewInt(a)
					sum.Add(sum, big.NewInt(b)).Add(sum, big.NewInt(c))
					want, wantErr := api.Vec{}, api.ErrOver
					if sum.IsInt64() {
						want, wantErr = at(i, sum.Int64(), 6), api.OK
					}
					got, e := vec.Sum([]api.Vec{at(i, a, 1), at(i, b, 2), at(i, c, 3)})
					same(t, "Sum", got, e, want, wantErr)
				}
			}
		}
	}
}

// P1.3
func TestFitsMaxMin(t *testing.T) {
	for _, x := range []struct {
		a, b, max, min api.Vec
		fits           bool
	}{
		{of(1, 2, 3), of(1, 2, 4), of(1, 2, 4), of(1, 2, 3), true},
		{of(1, 2, 3), of(9, 9, 2), of(9, 9, 3), of(1, 2, 2), false},
		{of(0, 0, 0), of(0, 0, 0), of(0, 0, 0), of(0, 0, 0), true},
		{of(least, least, least), of(most, most, most), of(most, most, most), of(least, least, least), true},
		{of(most, most, most), of(least, least, least), of(most, most, most), of(least, least, least), false},
		{of(-1, 0, 1), of(0, -1, 1), of(0, 0, 1), of(-1, -1, 1), false},
	} {
		if got := vec.Fits(x.a, x.b); got != x.fits {
			t.Errorf("Fits(%v, %v): got %v", x.a, x.b, got)
		}
		if got := vec.Max(x.a, x.b); got != x.max {
			t.Errorf("Max(%v, %v): got %v, want %v", x.a, x.b, got, x.max)
		}
		if got := vec.Min(x.a, x.b); got != x.min {
			t.Errorf("Min(%v, %v): got %v, want %v", x.a, x.b, got, x.min)
		}
	}
}

// P1.3: each pair of edges, in each place, beside numbers that are equal.
func TestFitsMaxMinAtAllEdges(t *testing.T) {
	for i := range 3 {
		for _, a := range edges() {
			for _, b := range edges() {
				v, w := at(i, a, 4), at(i, b, 4)
				if got := vec.Fits(v, w); got != (a <= b) {
					t.Errorf("Fits(%v, %v): got %v", v, w, got)
				}
				if got := vec.Max(v, w); got != at(i, max(a, b), 4) {
					t.Errorf("Max(%v, %v): got %v", v, w, got)
				}
				if got := vec.Min(v, w); got != at(i, min(a, b), 4) {
					t.Errorf("Min(%v, %v): got %v", v, w, got)
				}
			}
		}
	}
}

// orders calls do with each order of l.
func orders(l []api.Vec, do func([]api.Vec)) {
	var place func(n int)
	place = func(n int) {
		if n == len(l) {
			do(slices.Clone(l))
			return
		}
		for i := n; i < len(l); i++ {
			l[n], l[i] = l[i], l[n]
			place(n + 1)
			l[n], l[i] = l[i], l[n]
		}
	}
	place(0)
}

// P1.4: a sum does not hang on the order.
func TestSumInAnyOrder(t *testing.T) {
	for _, l := range [][]api.Vec{
		{of(1, 2, 3), of(40, 50, 60), of(-7, 8, -9), of(0, 0, 0)},
		{of(most, least, 0), of(1, -1, 1), of(-1, 1, -1), of(most, least, 5), of(-most, most, least)},
		{of(most, 0, 0), of(most, 0, 0), of(-most, 0, 0), of(1, 0, 0)},
		{of(0, 0, least), of(0, 0, -1), of(0, 0, most), of(0, 0, most)},
	} {
		want, wantErr := vec.Sum(l)
		orders(slices.Clone(l), func(m []api.Vec) {
			got, e := vec.Sum(m)
			same(t, "Sum in another order", got, e, want, wantErr)
		})
	}
}

// P1.4: a sum of two is what is added; what is added is taken away again, and the other way round; one at a time is as often as said.
func TestAddedIsTakenAway(t *testing.T) {
	for i := range 3 {
		for _, a := range edges() {
			for _, b := range edges() {
				v, w := at(i, a, 11), at(i, b, -3)
				more, e := vec.Add(v, w)
				sum, sumErr := vec.Sum([]api.Vec{w, v})
				same(t, "Sum of two", sum, sumErr, more, e)
				if e == api.OK {
					back, backErr := vec.Sub(more, w)
					same(t, "Sub behind Add", back, backErr, v, api.OK)
				}
				less, e := vec.Sub(v, w)
				if e == api.OK {
					back, backErr := vec.Add(less, w)
					same(t, "Add behind Sub", back, backErr, v, api.OK)
				}
			}
			for n := range 5 {
				want, wantErr := vec.Sum(slices.Repeat([]api.Vec{at(i, a, 11)}, n))
				got, e := vec.Times(at(i, a, 11), int64(n))
				same(t, "Times", got, e, want, wantErr)
			}
		}
	}
}

// P1.4: what fits stays so when the same is added to both, where nothing is too great.
func TestFitsStays(t *testing.T) {
	for i := range 3 {
		for _, a := range edges() {
			for _, b := range edges() {
				for _, c := range []int64{0, 1, -1, api.MaxRes, -api.MaxRes, most, least} {
					v, w, more := at(i, a, 1), at(i, b, 2), at(i, c, -5)
					x, e1 := vec.Add(v, more)
					y, e2 := vec.Add(w, more)
					if e1 == api.OK && e2 == api.OK && vec.Fits(v, w) != vec.Fits(x, y) {
						t.Errorf("Fits(%v, %v) is not as Fits(%v, %v)", v, w, x, y)
					}
				}
			}
		}
	}
}
