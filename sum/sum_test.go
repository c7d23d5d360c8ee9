package sum_test

import (
	"hash/crc32"
	"math"
	"math/rand"
	"strings"
	"testing"

	"reeve/sum"
)

// goOn goes on from a number bit by bit, as the chapter's words say it.
func goOn(x uint32, s string) uint32 {
	x ^= math.MaxUint32
	for _, b := range []byte(s) {
		x ^= uint32(b)
		for range 8 {
			off := x & 1
			x >>= 1
			if off == 1 {
				x ^= 0x82f63b78
			}
		}
	}
	return x ^ math.MaxUint32
}

func someText(r *rand.Rand, n int) string {
	b := make([]byte, n)
	r.Read(b)
	return string(b)
}

// edgeNumbers: numbers at both ends, each single bit, and each number without one bit.
func edgeNumbers() []uint32 {
	out := []uint32{0, math.MaxUint32, 0x82f63b78, 0xe3069283}
	for i := range 32 {
		out = append(out, 1<<i, ^uint32(1<<i))
	}
	return out
}

func TestOfKnown(t *testing.T) { // P2.1
	up, down := make([]byte, 32), make([]byte, 32)
	for i := range up {
		up[i], down[31-i] = byte(i), byte(i)
	}
	for _, x := range []struct {
		s    string
		want uint32
	}{
		{"", 0},
		{"123456789", 0xe3069283},
		{strings.Repeat("\x00", 32), 0x8a9136aa}, // these four: RFC 3720, B.4
		{strings.Repeat("\xff", 32), 0x62a8ab43},
		{string(up), 0x46dd794e},
		{string(down), 0x113fdb5c},
	} {
		if got := sum.Of(x.s); got != x.want {
			t.Errorf("Of(%q) = %08x, want %08x", x.s, got, x.want)
		}
	}
}

func TestOfEachByteAndLength(t *testing.T) { // P2.1
	for b := range 256 {
		for _, s := range []string{string([]byte{byte(b)}), string([]byte{0, byte(b)}), string([]byte{byte(b), 0xff})} {
			if got, want := sum.Of(s), goOn(0, s); got != want {
				t.Errorf("Of(%q) = %08x, want %08x", s, got, want)
			}
		}
	}
	r := rand.New(rand.NewSource(1))
	castagnoli := crc32.MakeTable(crc32.Castagnoli)
	for n := range 300 {
		s := someText(r, n)
		if got, want := sum.Of(s), goOn(0, s); got != want {
			t.Errorf("Of of %d bytes = %08x, want %08x", n, got, want)
		}
	}
	long := someText(r, 1<<20+7)
	if got, want := sum.Of(long), crc32.Checksum([]byte(long), castagnoli); got != want {
		t.Errorf("Of of a long text = %08x, want %08x", got, want)
	}
}

func TestMoreGoesOn(t *testing.T) { // P2.1
	if sum.More(sum.Of("a"), "b") != sum.Of("ab") {
		t.Error("a, then b")
	}
	s := someText(rand.New(rand.NewSource(2)), 200)
	for i := range len(s) + 1 {
		if sum.More(sum.Of(s[:i]), s[i:]) != sum.Of(s) {
			t.Errorf("cut at %d", i)
		}
	}
}

func TestMoreOfAnyNumber(t *testing.T) { // P2.1
	r := rand.New(rand.NewSource(3))
	from := edgeNumbers()
	for range 200 {
		from = append(from, r.Uint32())
	}
	for _, x := range from {
		if got := sum.More(x, ""); got != x {
			t.Errorf("More(%08x, nothing) = %08x", x, got)
		}
		for _, s := range []string{"\x00", "\xff", "ab", someText(r, r.Intn(40))} {
			if got, want := sum.More(x, s), goOn(x, s); got != want {
				t.Errorf("More(%08x, %q) = %08x, want %08x", x, s, got, want)
			}
		}
	}
}

func TestJoinOfSums(t *testing.T) { // P2.2
	if got := sum.Join(sum.Of("1234"), sum.Of("56789"), 5); got != 0xe3069283 {
		t.Errorf("1234, then 56789: %08x", got)
	}
	r := rand.New(rand.NewSource(4))
	for range 500 {
		a, b := someText(r, r.Intn(50)), someText(r, r.Intn(300))
		if got, want := sum.Join(sum.Of(a), sum.Of(b), len(b)), sum.Of(a+b); got != want {
			t.Errorf("Join of %d and %d bytes = %08x, want %08x", len(a), len(b), got, want)
		}
	}
	long := someText(r, 1<<20+3)
	if sum.Join(sum.Of("a"), sum.Of(long), len(long)) != sum.Of("a"+long) {
		t.Error("a long text")
	}
}

func TestJoinOfAnyNumbers(t *testing.T) { // P2.2
	r := rand.New(rand.NewSource(5))
	for _, n := range []int{0, 1, 2, 3, 4, 5, 7, 8, 15, 16, 31, 32, 33, 63, 64, 65, 127, 128, 1000, 4097} {
		zeros := strings.Repeat("\x00", n)
		for _, a := range append(edgeNumbers(), r.Uint32(), r.Uint32()) {
			for _, b := range []uint32{0, 1, math.MaxUint32, r.Uint32()} {
				want := goOn(a, zeros) ^ b ^ goOn(0, zeros)
				if got := sum.Join(a, b, n); got != want {
					t.Errorf("Join(%08x, %08x, %d) = %08x, want %08x", a, b, n, got, want)
				}
			}
		}
	}
}

func TestJoinBelowZero(t *testing.T) { // P2.2
	for _, n := range []int{-1, -2, -8, math.MinInt32, math.MinInt + 1, math.MinInt} {
		for _, a := range edgeNumbers() {
			if got := sum.Join(a, 2, n); got != 0 {
				t.Errorf("Join(%08x, 2, %d) = %08x, want 0", a, n, got)
			}
		}
	}
}

// 2^31 - 1 shifts make of each number that number (the order of x modulo the polynomial), and so do as many bytes 0:
// what very many bytes 0 do is told by what few do.
func TestJoinOfVeryMany(t *testing.T) { // P2.2
	const round = 1<<31 - 1
	for _, a := range edgeNumbers() {
		for _, b := range []uint32{0, 0x9badcafe} {
			for _, x := range []struct{ n, same int }{{round, 0}, {round + 1, 1}, {1 << 31, 1}, {1 << 62, 1}, {math.MaxInt, 1}, {math.MaxInt - 1, 0}, {round * 5, 0}, {round*1000 + 77, 77}} {
				if got, want := sum.Join(a, b, x.n), sum.Join(a, b, x.same); got != want {
					t.Errorf("Join(%08x, %08x, %d) = %08x, want %08x", a, b, x.n, got, want)
				}
			}
		}
	}
}

func TestJoinInAnyOrder(t *testing.T) { // P2.2
	r := rand.New(rand.NewSource(6))
	for range 300 {
		a, b, c, n, m := r.Uint32(), r.Uint32(), r.Uint32(), r.Intn(1<<61), r.Intn(1<<61)
		if sum.Join(sum.Join(a, b, n), c, m) != sum.Join(a, sum.Join(b, c, m), n+m) {
			t.Errorf("%08x, %08x of %d, %08x of %d", a, b, n, c, m)
		}
	}
}

// turn turns the bits of s from the bit at on, as pattern says, the lowest first.
func turn(s string, at int, pattern uint32) string {
	b := []byte(s)
	for i := range 32 {
		if pattern>>i&1 == 1 {
			b[(at+i)/8] ^= 1 << ((at + i) % 8)
		}
	}
	return string(b)
}

func TestTurnedBitsAreTold(t *testing.T) { // P2.3
	r := rand.New(rand.NewSource(7))
	for _, n := range []int{4, 5, 16, 61} {
		s := someText(r, n)
		of := sum.Of(s)
		for at := range 8*n - 31 {
			patterns := []uint32{math.MaxUint32, 0x82f63b78, 0x1edc6f41, 0x05ec76f1}
			for i := range 32 {
				for j := range i + 1 {
					patterns = append(patterns, 1<<i|1<<j)
				}
			}
			for range 100 {
				patterns = append(patterns, r.Uint32()|1)
			}
			for _, p := range patterns {
				if sum.Of(turn(s, at, p)) == of {
					t.Errorf("%d bytes, from bit %d on %08x: not told", n, at, p)
				}
			}
		}
	}
}

// In texts of two bytes all bits are within 32 in a row: no two have one sum.
func TestShortTextsHaveSumsOfTheirOwn(t *testing.T) { // P2.3
	seen := map[uint32]bool{}
	for x := range 1 << 16 {
		seen[sum.Of(string([]byte{byte(x), byte(x >> 8)}))] = true
	}
	if len(seen) != 1<<16 {
		t.Errorf("two bytes: %d sums", len(seen))
	}
}
