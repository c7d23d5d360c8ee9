package frame_test

import (
	"encoding/binary"
	"hash/crc32"
	"math/rand"
	"slices"
	"strings"
	"testing"

	"reeve/api"
	"reeve/frame"
)

// frameOf: the frame of a text, as the chapter's words say it.
func frameOf(text string) string {
	b := binary.LittleEndian.AppendUint32(nil, uint32(len(text)))
	b = append(b, text...)
	b = binary.LittleEndian.AppendUint32(b, crc32.Checksum(b, crc32.MakeTable(crc32.Castagnoli)))
	return string(b)
}

func framesOf(texts []string) string {
	var b strings.Builder
	for _, text := range texts {
		b.WriteString(frameOf(text))
	}
	return b.String()
}

// front: what Read must answer of s.
func front(s string) (string, int, api.Errno) {
	if len(s) < 4 {
		return "", 0, api.ErrTorn
	}
	told := int64(binary.LittleEndian.Uint32([]byte(s)))
	switch {
	case told > api.MaxFrame:
		return "", 0, api.ErrLong
	case int64(len(s)) < told+8:
		return "", 0, api.ErrTorn
	case frameOf(s[4:4+told]) != s[:told+8]:
		return "", 0, api.ErrSum
	}
	return s[4 : 4+told], int(told) + 8, api.OK
}

// texts: of none, of few bytes, of all bytes, and of as many as turn a byte of the length, up to the limit.
func texts() []string {
	out := []string{"", "a", "\x00", "\xff", "\x00\x00\x00\x00", "\x01\x00\x00\x00a", frameOf("inside"), "æ\n\x00"}
	r := rand.New(rand.NewSource(1))
	for _, n := range []int{2, 3, 4, 5, 7, 8, 9, 127, 128, 255, 256, 257, 511, 512, 4095, 4096, 65280, api.MaxFrame - 1, api.MaxFrame} {
		b := make([]byte, n)
		r.Read(b)
		out = append(out, string(b))
	}
	return out
}

// shortTexts: those of texts that have at most 300 bytes.
func shortTexts() []string {
	return slices.DeleteFunc(texts(), func(s string) bool { return len(s) > 300 })
}

func wantRead(t *testing.T, s, text string, n int, e api.Errno) {
	t.Helper()
	if gotText, gotN, gotE := frame.Read(s); gotText != text || gotN != n || gotE != e {
		t.Errorf("Read(%.40x.., %d bytes) = %d bytes, %d, %v; want %d bytes, %d, %v", s, len(s), len(gotText), gotN, gotE, len(text), n, e)
	}
}

func wantScan(t *testing.T, s string, l []string, good int, e api.Errno) {
	t.Helper()
	if gotL, gotGood, gotE := frame.Scan(s); !slices.Equal(gotL, l) || gotGood != good || gotE != e {
		t.Errorf("Scan(%.40x.., %d bytes) = %d texts, %d, %v; want %d texts, %d, %v", s, len(s), len(gotL), gotGood, gotE, len(l), good, e)
	}
}

// P4.1
func TestFrame(t *testing.T) {
	for _, text := range texts() {
		if got, e := frame.Frame(text); got != frameOf(text) || e != api.OK {
			t.Errorf("Frame of %d bytes: %.40x.., %v", len(text), got, e)
		}
	}
	for _, n := range []int{api.MaxFrame + 1, api.MaxFrame + 2, 2 * api.MaxFrame, 1 << 24} {
		if got, e := frame.Frame(strings.Repeat("a", n)); got != "" || e != api.ErrLong {
			t.Errorf("Frame of %d bytes: %d bytes, %v; want none, %v", n, len(got), e, api.ErrLong)
		}
	}
}

// P4.1, P4.2, P4.3: the chapter's examples.
func TestExamples(t *testing.T) {
	s, e := frame.Frame("a")
	if len(s) != 9 || !strings.HasPrefix(s, "\x01\x00\x00\x00a") || e != api.OK {
		t.Errorf("Frame of a: %x, %v", s, e)
	}
	wantRead(t, s, "a", 9, api.OK)
	wantRead(t, s[:8], "", 0, api.ErrTorn)
	wantRead(t, s[:8]+string([]byte{s[8] + 1}), "", 0, api.ErrSum)
	wantRead(t, "", "", 0, api.ErrTorn)
	wantScan(t, "", nil, 0, api.OK)
}

// P4.2: a frame, alone and with bytes behind it.
func TestReadFrame(t *testing.T) {
	for _, text := range texts() {
		f := frameOf(text)
		for _, behind := range []string{"", "z", "\x00\x00\x00\x00", "\xff\xff\xff\xff\xff\xff\xff\xff", frameOf("b"), f} {
			wantRead(t, f+behind, text, len(f), api.OK)
		}
	}
}

// P4.2: each error, and which of two is told.
func TestReadErrors(t *testing.T) {
	limit := frameOf(strings.Repeat("m", api.MaxFrame))
	more := strings.Repeat("m", api.MaxFrame+1)
	for _, c := range []struct {
		what, s string
		e       api.Errno
	}{
		{"one byte", "\x00", api.ErrTorn},
		{"three bytes", "\xff\xff\xff", api.ErrTorn},
		{"three bytes of a great length", "\x00\x00\x00", api.ErrTorn},
		{"a length alone", "\x00\x00\x00\x00", api.ErrTorn},
		{"the limit's length alone", "\x00\x00\x01\x00", api.ErrTorn},
		{"one beyond, alone", "\x01\x00\x01\x00", api.ErrLong},
		{"far beyond, alone", "\x00\x00\x00\x01", api.ErrLong},
		{"2^31 bytes, alone", "\x00\x00\x00\x80", api.ErrLong},
		{"2^31 - 1 bytes, with some", "\xff\xff\xff\x7fabcdefgh", api.ErrLong},
		{"2^32 - 1 bytes, with some", "\xff\xff\xff\xffabcdefgh", api.ErrLong},
		{"2^32 - 8 bytes, with some", "\xf8\xff\xff\xffabcdefgh", api.ErrLong},
		{"one beyond, whole", frameOf(more), api.ErrLong},
		{"one beyond, of another sum", frameOf(more)[:len(more)+4] + "abcd", api.ErrLong},
		{"no text, no sum", frameOf("")[:7], api.ErrTorn},
		{"no text, another sum", "\x00\x00\x00\x00\x00\x00\x00\x00", api.ErrSum},
		{"a text's end is missing", frameOf("abc")[:6], api.ErrTorn},
		{"a sum is missing", frameOf("abc")[:7], api.ErrTorn},
		{"a sum's end is missing, and another sum", "\x01\x00\x00\x00aaaa", api.ErrTorn},
		{"the limit, its last byte missing", limit[:len(limit)-1], api.ErrTorn},
		{"the limit, another text", limit[:4] + "n" + limit[5:], api.ErrSum},
		{"a shorter length", "\x02" + frameOf("abc")[1:], api.ErrSum},
		{"a longer length", "\x04" + frameOf("abc")[1:] + "d", api.ErrSum},
		{"the sum of the text alone", "\x01\x00\x00\x00a" + crcOf("a"), api.ErrSum},
		{"the sum, the highest byte first", turnedRound(frameOf("a")), api.ErrSum},
	} {
		if text, n, e := frame.Read(c.s); text != "" || n != 0 || e != c.e {
			t.Errorf("%s: %q, %d, %v; want %v", c.what, text, n, e, c.e)
		}
	}
}

func crcOf(s string) string {
	sum := crc32.Checksum([]byte(s), crc32.MakeTable(crc32.Castagnoli))
	return string(binary.LittleEndian.AppendUint32(nil, sum))
}

// turnedRound: the frame with the bytes of its sum put the other way round.
func turnedRound(f string) string {
	b := []byte(f)
	slices.Reverse(b[len(b)-4:])
	return string(b)
}

// P4.2: whatever bytes there are, against the chapter's words.
func TestReadAnything(t *testing.T) {
	r := rand.New(rand.NewSource(2))
	lengths := []uint32{0, 1, 2, 3, 5, 8, 20, 256, api.MaxFrame, api.MaxFrame + 1, 1 << 31}
	for range 50000 {
		b := binary.LittleEndian.AppendUint32(nil, lengths[r.Intn(len(lengths))])
		behind := make([]byte, r.Intn(30))
		r.Read(behind)
		b = append(b, behind...)
		if r.Intn(2) == 0 {
			b = append([]byte(frameOf(string(behind))), b...)
			b[r.Intn(len(b))] ^= byte(r.Intn(2))
		}
		s := string(b[:len(b)-r.Intn(2)*r.Intn(len(b))])
		text, n, e := front(s)
		wantRead(t, s, text, n, e)
	}
}

// P4.3
func TestScan(t *testing.T) {
	all := texts()
	whole := framesOf(all)
	wantScan(t, whole, all, len(whole), api.OK)
	wantScan(t, frameOf(""), []string{""}, 8, api.OK)
	wantScan(t, strings.Repeat(frameOf(""), 1000), make([]string, 1000), 8000, api.OK)

	bad := map[string]api.Errno{
		"x": api.ErrTorn, "\x00\x00\x00": api.ErrTorn, "\x00\x00\x00\x00": api.ErrTorn, "\x00\x00\x01\x00": api.ErrTorn,
		frameOf("abc")[:10]: api.ErrTorn, "\x01\x00\x01\x00": api.ErrLong, "\xff\xff\xff\xff": api.ErrLong,
		"\x00\x00\x00\x00\x00\x00\x00\x00": api.ErrSum, "\x01\x00\x00\x00aaaaa": api.ErrSum,
	}
	for tail, e := range bad {
		wantScan(t, tail, nil, 0, e)
		wantScan(t, whole+tail, all, len(whole), e)
		if e == api.ErrSum || e == api.ErrLong { // what stands behind it is not told, even if it is a frame
			wantScan(t, whole+tail+frameOf("later"), all, len(whole), e)
			wantScan(t, tail+frameOf("later"), nil, 0, e)
		}
	}
}

// P4.3: the same bytes are told the same way again, and an answer is the caller's own.
func TestScanAgain(t *testing.T) {
	l, _, _ := frame.Scan(framesOf([]string{"a", "b"}))
	l[0], l[1] = "c", "d"
	wantScan(t, framesOf([]string{"a", "b"}), []string{"a", "b"}, 18, api.OK)
}

// P4.4: put together, whatever stands behind, and cut anywhere.
func TestCutAnywhere(t *testing.T) {
	all := shortTexts()
	whole := framesOf(all)
	r := rand.New(rand.NewSource(3))
	for cut := range len(whole) + 1 {
		n, good := 0, 0
		for n < len(all) && good+len(frameOf(all[n])) <= cut {
			good += len(frameOf(all[n]))
			n++
		}
		e := api.OK
		if good < cut {
			e = api.ErrTorn
		}
		wantScan(t, whole[:cut], all[:n], good, e)
		if cut == good {
			behind := make([]byte, r.Intn(40))
			r.Read(behind)
			told, bytes, _ := frame.Scan(whole[:cut] + string(behind))
			if len(told) < n || !slices.Equal(told[:n], all[:n]) || bytes < good {
				t.Errorf("%x behind %d bytes: %d texts, %d bytes", behind, cut, len(told), bytes)
			}
		}
	}
}

// P4.4: bits that are turned behind the first four bytes, all of them within 32 in a row.
func TestTurnedBits(t *testing.T) {
	r := rand.New(rand.NewSource(4))
	for _, text := range []string{"", "a", "abc", "\x00\x00\x00\x00\x00", "some more bytes", strings.Repeat("\xff", 200)} {
		f := frameOf(text)
		first, last := 32, 8*len(f)
		for at := first; at < last; at++ {
			patterns := []uint32{1<<32 - 1, 1<<31 + 1, 0x82f63b78 | 1, 0x05ec76f1}
			for i := range uint32(64) {
				patterns = append(patterns, 2*i+1)
			}
			for range 20 {
				patterns = append(patterns, r.Uint32()|1)
			}
			for _, p := range patterns {
				s := turn(f, at, p)
				wantRead(t, s, "", 0, api.ErrSum)
				wantScan(t, frameOf("ahead")+s+frameOf("behind"), []string{"ahead"}, 13, api.ErrSum)
			}
		}
	}
}

// turn: f with those bits turned that the pattern has, from the bit on at which it is laid, as far as f goes.
func turn(f string, at int, pattern uint32) string {
	b := []byte(f)
	for i := range 32 {
		if bit := at + i; pattern>>i&1 == 1 && bit < 8*len(b) {
			b[bit/8] ^= 1 << (bit % 8)
		}
	}
	return string(b)
}
