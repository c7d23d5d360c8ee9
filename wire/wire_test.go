package wire_test

import (
	"math"
	"math/big"
	"math/rand"
	"strings"
	"testing"

	"reeve/api"
	"reeve/wire"
)

// bytesOf: the groups of a number that may be of any size, as the chapter's words say it.
func bytesOf(x *big.Int) string {
	rest, group, seven := new(big.Int).Set(x), new(big.Int), big.NewInt(128)
	var b []byte
	for {
		rest.DivMod(rest, seven, group)
		if rest.Sign() == 0 {
			return string(append(b, byte(group.Uint64())))
		}
		b = append(b, byte(group.Uint64())+128)
	}
}

func bytesOfUint(x uint64) string { return bytesOf(new(big.Int).SetUint64(x)) }

func bytesOfInt(x int64) string {
	twice := new(big.Int).Mul(big.NewInt(2), big.NewInt(x))
	if x < 0 {
		twice.Neg(twice).Sub(twice, big.NewInt(1))
	}
	return bytesOf(twice)
}

// standing: the number at the front of s and how many bytes it has; false, if none stands there.
func standing(s string) (uint64, int, bool) {
	x := new(big.Int)
	for i := range len(s) {
		group := big.NewInt(int64(s[i] % 128))
		x.Add(x, group.Lsh(group, uint(7*i)))
		if s[i] < 128 {
			return x.Uint64(), i + 1, x.IsUint64() && (s[i] != 0 || i == 0)
		}
	}
	return 0, 0, false
}

// edges: numbers around each power of 2, and both ends.
func edges() []uint64 {
	out := []uint64{0, math.MaxUint64, math.MaxUint64 - 1}
	for i := range 64 {
		out = append(out, 1<<i-1, 1<<i, 1<<i+1)
	}
	return out
}

// wholeEdges: whole numbers around each power of 2, on both sides of 0, and both ends.
func wholeEdges() []int64 {
	var out []int64
	for _, x := range edges() {
		out = append(out, int64(x), -int64(x))
	}
	return out
}

// odds: texts of bytes; all of up to two, and some that are made of bytes at the edges.
func odds() []string {
	out := []string{""}
	for a := range 256 {
		out = append(out, string([]byte{byte(a)}))
		for b := range 256 {
			out = append(out, string([]byte{byte(a), byte(b)}))
		}
	}
	for _, n := range []int{7, 8, 9, 10, 30} {
		for _, fill := range []string{"\x80", "\xff", "\x81", "\xfe"} {
			for _, last := range []string{"", "\x00", "\x01", "\x02", "\x03", "\x7f", "\x40", "\x80\x00", "\x80\x01", "\x81\x00", "\x01\x00", "\x00\x00"} {
				out = append(out, strings.Repeat(fill, n)+last)
			}
		}
	}
	r, of := rand.New(rand.NewSource(1)), "\x00\x01\x02\x03\x7f\x80\x81\x82\xfe\xff"
	for range 20000 {
		b := make([]byte, 3+r.Intn(10))
		for i := range b {
			b[i] = of[r.Intn(len(of))]
		}
		out = append(out, string(b))
	}
	return out
}

// stuck tells of a reader that has a fault whether each call takes nothing and answers zero, and the fault stays.
func stuck(t *testing.T, r *wire.Reader, what string, fault api.Errno, left int) {
	t.Helper()
	for range 2 {
		if r.Err() != fault || r.Left() != left {
			t.Fatalf("%s: %v, %d left; want %v, %d", what, r.Err(), r.Left(), fault, left)
		}
		if x := r.Uint(math.MaxUint64); x != 0 {
			t.Fatalf("%s: Uint = %d behind a fault", what, x)
		}
		if x := r.Int(math.MinInt64, math.MaxInt64); x != 0 {
			t.Fatalf("%s: Int = %d behind a fault", what, x)
		}
		if x := r.Text(math.MaxInt); x != "" {
			t.Fatalf("%s: Text = %q behind a fault", what, x)
		}
		if x := r.Count(math.MaxInt); x != 0 {
			t.Fatalf("%s: Count = %d behind a fault", what, x)
		}
		if r.Bool() {
			t.Fatalf("%s: Bool behind a fault", what)
		}
		if got := r.End(); got != fault {
			t.Fatalf("%s: End = %v, want %v", what, got, fault)
		}
	}
}

// came holds what a call made of s against what it should: the answer, or the fault, and how many bytes it took.
func came[T comparable](t *testing.T, s string, r *wire.Reader, got, want T, size int, fault api.Errno) {
	t.Helper()
	if fault != api.OK {
		var zero T
		if got != zero {
			t.Fatalf("%x: %v beside the fault %v", s, got, fault)
		}
		stuck(t, r, "", fault, len(s))
		return
	}
	if got != want || r.Err() != api.OK || r.Left() != len(s)-size {
		t.Fatalf("%x: %v, %v, %d left; want %v, %d left", s, got, r.Err(), r.Left(), want, len(s)-size)
	}
}

func TestWrittenExamples(t *testing.T) { // P3.1
	for _, x := range []struct{ got, want string }{
		{wire.Uint(0), "\x00"},
		{wire.Uint(1), "\x01"},
		{wire.Uint(127), "\x7f"},
		{wire.Uint(128), "\x80\x01"},
		{wire.Uint(300), "\xac\x02"},
		{wire.Uint(math.MaxUint64), strings.Repeat("\xff", 9) + "\x01"},
		{wire.Int(0), "\x00"},
		{wire.Int(-1), "\x01"},
		{wire.Int(1), "\x02"},
		{wire.Int(-64), "\x7f"},
		{wire.Int(64), "\x80\x01"},
		{wire.Int(math.MaxInt64), "\xfe" + strings.Repeat("\xff", 8) + "\x01"},
		{wire.Int(math.MinInt64), strings.Repeat("\xff", 9) + "\x01"},
		{wire.Text(""), "\x00"},
		{wire.Text("ab"), "\x02ab"},
		{wire.Text("\x00\xff\x80"), "\x03\x00\xff\x80"},
		{wire.Bool(false), "\x00"},
		{wire.Bool(true), "\x01"},
	} {
		if x.got != x.want {
			t.Errorf("%x, want %x", x.got, x.want)
		}
	}
}

func TestWrittenAtEdges(t *testing.T) { // P3.1
	for _, x := range edges() {
		if got, want := wire.Uint(x), bytesOfUint(x); got != want {
			t.Errorf("Uint(%d) = %x, want %x", x, got, want)
		}
	}
	for _, x := range wholeEdges() {
		if got, want := wire.Int(x), bytesOfInt(x); got != want {
			t.Errorf("Int(%d) = %x, want %x", x, got, want)
		}
	}
	for _, n := range []int{0, 1, 126, 127, 128, 129, 16383, 16384, 1 << 17} {
		s := strings.Repeat("\xff", n)
		if got, want := wire.Text(s), bytesOfUint(uint64(n))+s; got != want {
			t.Errorf("Text of %d bytes: %d bytes, want %d", n, len(got), len(want))
		}
	}
}

func TestUintRead(t *testing.T) { // P3.2
	for _, s := range odds() {
		x, size, is := standing(s)
		for _, most := range []uint64{0, 1, 127, 128, 1 << 62, math.MaxUint64, x - 1, x, x + 1} {
			fault := api.OK
			switch {
			case !is:
				fault = api.ErrForm
			case x > most:
				fault = api.ErrOver
			}
			r := wire.New(s)
			came(t, s, r, r.Uint(most), x, size, fault)
		}
	}
}

func TestUintReadAtEdges(t *testing.T) { // P3.2
	for _, x := range edges() {
		s := bytesOfUint(x)
		r := wire.New(s + "behind")
		came(t, s+"behind", r, r.Uint(x), x, len(s), api.OK)
		if x > 0 {
			r = wire.New(s)
			came(t, s, r, r.Uint(x-1), 0, 0, api.ErrOver)
		}
		for n := range len(s) {
			r = wire.New(s[:n])
			came(t, s[:n], r, r.Uint(math.MaxUint64), 0, 0, api.ErrForm)
		}
		low := s[:len(s)-1] + string([]byte{s[len(s)-1] | 128})
		for _, bad := range []string{low + "\x00", low + "\x80\x00", low + "\x80\x80\x80\x80\x80\x80\x80\x80\x80\x80\x00"} {
			r = wire.New(bad)
			came(t, bad, r, r.Uint(math.MaxUint64), 0, 0, api.ErrForm)
		}
	}
}

// Just 2^64 and more is no number, even if no more than that were allowed: ErrForm stands ahead of ErrOver.
func TestUintReadTooGreat(t *testing.T) { // P3.2
	for shift := uint(64); shift < 200; shift++ {
		for add := range int64(3) {
			x := new(big.Int).Lsh(big.NewInt(1), shift)
			s := bytesOf(x.Add(x, big.NewInt(add)))
			for _, most := range []uint64{0, math.MaxUint64} {
				r := wire.New(s)
				came(t, s, r, r.Uint(most), 0, 0, api.ErrForm)
			}
			r := wire.New(s)
			came(t, s, r, r.Int(0, 0), 0, 0, api.ErrForm)
		}
	}
	for _, s := range []string{strings.Repeat("\xff", 10), strings.Repeat("\x80", 1<<20), strings.Repeat("\x80", 1<<20) + "\x01"} {
		r := wire.New(s)
		if r.Uint(math.MaxUint64) != 0 || r.Err() != api.ErrForm || r.Left() != len(s) {
			t.Errorf("%d bytes: %v", len(s), r.Err())
		}
	}
}

func TestIntRead(t *testing.T) { // P3.2
	for _, s := range odds() {
		u, size, is := standing(s)
		x := int64(u / 2)
		if u%2 == 1 {
			x = -x - 1
		}
		for _, b := range [][2]int64{{math.MinInt64, math.MaxInt64}, {0, 0}, {-1, 0}, {0, 1}, {1, -1}, {math.MaxInt64, math.MinInt64}, {x, x}, {x + 1, math.MaxInt64}, {math.MinInt64, x - 1}, {x, math.MaxInt64}, {math.MinInt64, x}} {
			fault := api.OK
			switch {
			case !is:
				fault = api.ErrForm
			case x < b[0] || x > b[1]:
				fault = api.ErrOver
			}
			r := wire.New(s)
			came(t, s, r, r.Int(b[0], b[1]), x, size, fault)
		}
	}
}

func TestIntReadAtEdges(t *testing.T) { // P3.2
	for _, x := range wholeEdges() {
		s := bytesOfInt(x)
		r := wire.New(s + "\x00")
		came(t, s+"\x00", r, r.Int(x, x), x, len(s), api.OK)
		if x > math.MinInt64 {
			r = wire.New(s)
			came(t, s, r, r.Int(math.MinInt64, x-1), 0, 0, api.ErrOver)
		}
		if x < math.MaxInt64 {
			r = wire.New(s)
			came(t, s, r, r.Int(x+1, math.MaxInt64), 0, 0, api.ErrOver)
		}
		r = wire.New(s[:len(s)-1])
		came(t, s[:len(s)-1], r, r.Int(math.MinInt64, math.MaxInt64), 0, 0, api.ErrForm)
	}
}

// sizeFault: the fault of a size that stands at the front of s, with so many bytes allowed.
func sizeFault(s string, most int) api.Errno {
	x, size, is := standing(s)
	switch {
	case !is:
		return api.ErrForm
	case most < 0 || x > uint64(most):
		return api.ErrLong
	case x > uint64(len(s)-size):
		return api.ErrForm
	}
	return api.OK
}

func mosts(s string) []int {
	x, size, _ := standing(s)
	out := []int{math.MinInt, -1, 0, 1, 2, 3, len(s), len(s) - size, math.MaxInt}
	if x < math.MaxInt {
		out = append(out, int(x)-1, int(x), int(x)+1)
	}
	return out
}

func TestTextRead(t *testing.T) { // P3.3
	for _, s := range append(odds(), "\x02ab", "\x02abc", "\x03ab", "\x05éé") {
		n, size, _ := standing(s)
		for _, most := range mosts(s) {
			fault := sizeFault(s, most)
			want, whole := "", 0
			if fault == api.OK {
				whole = size + int(n)
				want = s[size:whole]
			}
			r := wire.New(s)
			came(t, s, r, r.Text(most), want, whole, fault)
		}
	}
}

func TestTextReadAtEdges(t *testing.T) { // P3.3
	for _, n := range []int{1, 127, 128, 16384, 1 << 17} {
		text := strings.Repeat("x", n)
		s := bytesOfUint(uint64(n)) + text
		for _, x := range []struct {
			s     string
			most  int
			want  string
			fault api.Errno
		}{
			{s, n, text, api.OK},
			{s + "y", n, text, api.OK},
			{s, math.MaxInt, text, api.OK},
			{s, n - 1, "", api.ErrLong},
			{s, -1, "", api.ErrLong},
			{s[:len(s)-1], n, "", api.ErrForm},
			{s[:len(s)-1], n - 1, "", api.ErrLong}, // the size is told ahead of what is wanting
			{"\x80", -1, "", api.ErrForm},          // and no size ahead of both
		} {
			r := wire.New(x.s)
			came(t, x.s, r, r.Text(x.most), x.want, len(s), x.fault)
		}
	}
	for _, most := range []int{-1, math.MinInt} { // no text is short enough
		r := wire.New("\x00")
		came(t, "\x00", r, r.Text(most), "", 0, api.ErrLong)
	}
	r := wire.New("\x00")
	came(t, "\x00", r, r.Text(0), "", 1, api.OK)
}

// Sizes that no int has must neither wrap round nor be cut.
func TestSizesThatAreTooGreat(t *testing.T) { // P3.3
	for _, x := range []uint64{math.MaxInt64, 1 << 63, 1<<63 + 1, math.MaxUint64 - 2, math.MaxUint64, 1 << 32, 1<<32 + 1} {
		s := bytesOfUint(x) + "abc"
		for _, most := range []int{-1, 0, 3, math.MaxInt} {
			fault := api.ErrLong
			if most >= 0 && x <= uint64(most) {
				fault = api.ErrForm
			}
			r := wire.New(s)
			came(t, s, r, r.Text(most), "", 0, fault)
			r = wire.New(s)
			came(t, s, r, r.Count(most), 0, 0, fault)
		}
	}
}

func TestCountRead(t *testing.T) { // P3.3
	for _, s := range append(odds(), "\x02xy", "\x02xyz", "\x02x") {
		n, size, _ := standing(s)
		for _, most := range mosts(s) {
			r := wire.New(s)
			came(t, s, r, r.Count(most), int(n), size, sizeFault(s, most))
		}
	}
	for _, n := range []int{127, 128, 16384} {
		s := bytesOfUint(uint64(n)) + strings.Repeat("\x01", n)
		size := len(s) - n
		r := wire.New(s)
		came(t, s, r, r.Count(n), n, size, api.OK)
		if !r.Bool() || r.Left() != n-1 {
			t.Errorf("%d: what is behind it was taken", n)
		}
		r = wire.New(s)
		came(t, s, r, r.Count(n-1), 0, 0, api.ErrLong)
		r = wire.New(s[:len(s)-1])
		came(t, s[:len(s)-1], r, r.Count(n), 0, 0, api.ErrForm)
		r = wire.New(s[:len(s)-1])
		came(t, s[:len(s)-1], r, r.Count(n-1), 0, 0, api.ErrLong)
	}
}

func TestBoolRead(t *testing.T) { // P3.3
	for _, s := range odds() {
		fault := api.ErrForm
		if s != "" && s[0] < 2 {
			fault = api.OK
		}
		r := wire.New(s)
		came(t, s, r, r.Bool(), s != "" && s[0] == 1, 1, fault)
	}
}

func TestEnd(t *testing.T) { // P3.4
	r := wire.New("")
	if r.Left() != 0 || r.Err() != api.OK || r.End() != api.OK || r.End() != api.OK || r.Err() != api.OK {
		t.Errorf("nothing: %v, %d left", r.Err(), r.Left())
	}
	if r.Uint(9); r.Err() != api.ErrForm || r.End() != api.ErrForm {
		t.Errorf("read behind the end: %v", r.Err())
	}
	r = wire.New("\x07\x01")
	if r.Left() != 2 || r.Uint(7) != 7 || r.Left() != 1 || !r.Bool() || r.Left() != 0 || r.End() != api.OK || r.Err() != api.OK {
		t.Errorf("all read: %v, %d left", r.Err(), r.Left())
	}
	for _, rest := range []string{"\x01", "\x00", "\x01\x01", "\x80"} {
		r = wire.New("\x07" + rest)
		if r.Uint(7) != 7 || r.Err() != api.OK || r.End() != api.ErrForm {
			t.Errorf("%x left: %v", rest, r.Err())
		}
		stuck(t, r, "bytes left", api.ErrForm, len(rest))
	}
}

// The first fault stays, whatever would be one behind it, and nothing more is taken.
func TestFirstFaultStays(t *testing.T) { // P3.4
	for _, x := range []struct {
		name, s string
		fault   api.Errno
		fail    func(r *wire.Reader)
	}{
		{"Uint", "\x01\x01", api.ErrOver, func(r *wire.Reader) { r.Uint(0) }},
		{"Int", "\x01\x01", api.ErrOver, func(r *wire.Reader) { r.Int(0, 9) }},
		{"a long text", "\x01a\x01", api.ErrLong, func(r *wire.Reader) { r.Text(0) }},
		{"a short text", "\x02a", api.ErrForm, func(r *wire.Reader) { r.Text(2) }},
		{"a long list", "\x01a\x01", api.ErrLong, func(r *wire.Reader) { r.Count(0) }},
		{"a short list", "\x02a", api.ErrForm, func(r *wire.Reader) { r.Count(2) }},
		{"Bool", "\x02\x01", api.ErrForm, func(r *wire.Reader) { r.Bool() }},
		{"End", "\x01\x01", api.ErrForm, func(r *wire.Reader) { r.End() }},
	} {
		r := wire.New("\x05" + x.s)
		if r.Uint(9) != 5 || r.Err() != api.OK {
			t.Fatal("what is ahead of the fault")
		}
		x.fail(r)
		r.Uint(0)
		r.Int(1, 0)
		r.Text(-1)
		r.Count(-1)
		stuck(t, r, x.name, x.fault, len(x.s))
	}
}

func TestReaderThatIsNone(t *testing.T) { // P3.4, R3
	for _, r := range []*wire.Reader{nil, new(wire.Reader)} {
		if r.Err() != api.ErrNil || r.End() != api.ErrNil || r.Left() != 0 {
			t.Errorf("%v, %v, %d left", r.Err(), r.End(), r.Left())
		}
		stuck(t, r, "none", api.ErrNil, 0)
	}
}

// brick: something that is written, and how it is read: whether it is what was written.
type brick struct {
	bytes string
	is    func(r *wire.Reader) bool
}

func someBrick(r *rand.Rand) brick {
	switch r.Intn(5) {
	case 0:
		x := r.Uint64() >> r.Intn(65)
		return brick{wire.Uint(x), func(r *wire.Reader) bool { return r.Uint(x) == x }}
	case 1:
		x := int64(r.Uint64()) >> r.Intn(64)
		return brick{wire.Int(x), func(r *wire.Reader) bool { return r.Int(x, x) == x }}
	case 2:
		b := make([]byte, r.Intn(200))
		r.Read(b)
		return brick{wire.Text(string(b)), func(r *wire.Reader) bool { return r.Text(len(b)) == string(b) }}
	case 3:
		b := make([]byte, r.Intn(4)) // a list: how many, and each as a byte
		return brick{wire.Uint(uint64(len(b))) + string(b), func(r *wire.Reader) bool {
			n := r.Count(3)
			for range n {
				if r.Bool() {
					return false
				}
			}
			return n == len(b)
		}}
	}
	is := r.Intn(2) == 1
	return brick{wire.Bool(is), func(r *wire.Reader) bool { return r.Bool() == is }}
}

func TestWrittenIsRead(t *testing.T) { // P3.5
	r := rand.New(rand.NewSource(2))
	for range 3000 {
		var all []brick
		var s strings.Builder
		for range r.Intn(12) {
			b := someBrick(r)
			all = append(all, b)
			s.WriteString(b.bytes)
		}
		in := wire.New(s.String())
		for i, b := range all {
			if !b.is(in) || in.Err() != api.OK {
				t.Fatalf("%x: brick %d: %v", s.String(), i, in.Err())
			}
		}
		if in.Left() != 0 || in.End() != api.OK {
			t.Fatalf("%x: %d left, %v", s.String(), in.Left(), in.End())
		}
	}
}

func TestReadIsWritten(t *testing.T) { // P3.5
	for _, s := range odds() {
		for name, again := range map[string]func(r *wire.Reader) string{
			"Uint": func(r *wire.Reader) string { return wire.Uint(r.Uint(math.MaxUint64)) },
			"Int":  func(r *wire.Reader) string { return wire.Int(r.Int(math.MinInt64, math.MaxInt64)) },
			"Text": func(r *wire.Reader) string { return wire.Text(r.Text(math.MaxInt)) },
			"Bool": func(r *wire.Reader) string { return wire.Bool(r.Bool()) },
			"Count": func(r *wire.Reader) string {
				return wire.Uint(uint64(r.Count(math.MaxInt)))
			},
		} {
			r := wire.New(s)
			if got := again(r); r.Err() == api.OK && got != s[:len(s)-r.Left()] {
				t.Fatalf("%s: %x was read and written as %x", name, s, got)
			}
		}
	}
}

func TestReadersAreApart(t *testing.T) { // R5, R6
	const s = "\x01\x02ab"
	a, b := wire.New(s), wire.New(s)
	a.Uint(0)
	if b.Uint(1) != 1 || b.Text(2) != "ab" || b.End() != api.OK || a.Left() != 4 || a.Err() != api.ErrOver {
		t.Errorf("%v, %v", a.Err(), b.Err())
	}
}
