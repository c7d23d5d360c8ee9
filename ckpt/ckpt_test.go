package ckpt_test

import (
	"encoding/binary"
	"hash/crc32"
	"math"
	"math/rand"
	"slices"
	"strings"
	"testing"

	"reeve/api"
	"reeve/block"
	"reeve/ckpt"
)

const junk = "\xee"

var (
	zeros = strings.Repeat("\x00", api.BlockSize)
	junks = strings.Repeat(junk, api.BlockSize)
)

// put: what is written to a block; a Sync is one of no bytes.
type put struct {
	block int
	data  string
}

func newDisk(t *testing.T, blocks int) *block.Disk {
	t.Helper()
	d, e := block.New(blocks)
	if e != api.OK {
		t.Fatalf("New(%d): %v", blocks, e)
	}
	return d
}

// diskOf: a disk of these blocks, all sure.
func diskOf(t *testing.T, blocks ...string) *block.Disk {
	t.Helper()
	d := newDisk(t, len(blocks))
	for b, data := range blocks {
		if e := d.Write(b, data); e != api.OK {
			t.Fatalf("Write(%d) of %d bytes: %v", b, len(data), e)
		}
	}
	d.Sync()
	return d
}

// junked: a disk of which all blocks are junk, and sure.
func junked(t *testing.T, blocks int) *block.Disk {
	t.Helper()
	return diskOf(t, slices.Repeat([]string{junks}, blocks)...)
}

// odd: n bytes, by chance.
func odd(r *rand.Rand, n int) string {
	b := make([]byte, n)
	r.Read(b)
	return string(b)
}

// headOf: a head of these numbers, be they right or not.
func headOf(gen uint64, size, sum uint32) string {
	h := make([]byte, api.BlockSize)
	binary.LittleEndian.PutUint64(h, gen)
	binary.LittleEndian.PutUint32(h[8:], size)
	binary.LittleEndian.PutUint32(h[12:], sum)
	h[api.BlockSize-1] = 0xa5
	return string(h)
}

func sumOf(text string) uint32 {
	return crc32.Checksum([]byte(text), crc32.MakeTable(crc32.Castagnoli))
}

// rightHead: the head of a checkpoint.
func rightHead(gen uint64, text string) string {
	return headOf(gen, uint32(len(text)), sumOf(text))
}

// textBlocks: a text's blocks.
func textBlocks(text string) []string {
	var l []string
	for ; len(text) > api.BlockSize; text = text[api.BlockSize:] {
		l = append(l, text[:api.BlockSize])
	}
	if text != "" {
		l = append(l, text+zeros[len(text):])
	}
	return l
}

// slotOf: n blocks of a slot that has this checkpoint; junk behind it.
func slotOf(n int, gen uint64, text string) []string {
	l := append([]string{rightHead(gen, text)}, textBlocks(text)...)
	return append(l, slices.Repeat([]string{junks}, n-len(l))...)
}

// turned: bytes of which bits of the one at a place are turned.
func turned(s string, at int, bits byte) string {
	return s[:at] + string([]byte{s[at] ^ bits}) + s[at+1:]
}

func want(t *testing.T, what string, got, want api.Errno) {
	t.Helper()
	if got != want {
		t.Errorf("%s: %v, want %v", what, got, want)
	}
}

func wantLoad(t *testing.T, what string, d *block.Disk, from, n int, gen uint64, text string, e api.Errno) {
	t.Helper()
	if gotGen, gotText, got := ckpt.Load(d, from, n); gotGen != gen || gotText != text || got != e {
		t.Errorf("%s: Load(%d, %d) = %d, %d bytes %.20q, %v; want %d, %d bytes %.20q, %v", what, from, n, gotGen, len(gotText), gotText, got, gen, len(text), text, e)
	}
}

func wantLoose(t *testing.T, d *block.Disk, l ...int) {
	t.Helper()
	if got := d.Loose(); !slices.Equal(got, l) {
		t.Errorf("Loose() = %v, want %v", got, l)
	}
}

func wantSure(t *testing.T, what string, d *block.Disk, sure string) {
	t.Helper()
	if d.Sure() != sure {
		t.Errorf("%s: what is sure is other than wanted", what)
	}
}

// The chapter's examples.
func TestExamples(t *testing.T) {
	d := newDisk(t, 4)
	wantLoad(t, "all 0", d, 0, 4, 0, "", api.ErrNone)
	if ckpt.Room(4) != 256 || ckpt.Room(5) != 0 {
		t.Errorf("Room(4), Room(5) = %d, %d", ckpt.Room(4), ckpt.Room(5))
	}
	want(t, "Save", ckpt.Save(d, 0, 4, 1, "abc"), api.OK)
	wantLoad(t, "saved", d, 0, 4, 1, "abc", api.OK)
	d.Fuse(3)
	want(t, "Save", ckpt.Save(d, 0, 4, 2, "de"), api.ErrDown)
	d.Crash(nil)
	wantLoad(t, "begun", d, 0, 4, 1, "abc", api.OK)
}

// P7.1
func TestRoom(t *testing.T) {
	for n := -10; n <= api.MaxBlocks+10; n++ {
		room := 0
		if n >= 4 && n <= api.MaxBlocks && n%2 == 0 {
			room = (n - 2) / 2 * api.BlockSize
		}
		if got := ckpt.Room(n); got != room {
			t.Errorf("Room(%d) = %d, want %d", n, got, room)
		}
	}
	for _, n := range []int{math.MinInt, math.MinInt + 4, -api.MaxBlocks, -4, 2 * api.MaxBlocks, 1 << 32, 1<<32 + 4, math.MaxInt - 1, math.MaxInt} {
		if got := ckpt.Room(n); got != 0 {
			t.Errorf("Room(%d) = %d, want 0", n, got)
		}
	}
}

// P7.2, P7.3, R3: neither nil nor what block.New did not make is a disk; that is told ahead of all else.
func TestNoDisk(t *testing.T) {
	for what, d := range map[string]*block.Disk{"nil": nil, "zero": {}} {
		for _, c := range [][2]int{{0, 4}, {0, 0}, {-1, 4}, {0, 3}, {0, -4}, {1, 4}, {math.MaxInt, math.MaxInt}} {
			for _, gen := range []uint64{0, 1, math.MaxUint64} {
				want(t, what+" Save", ckpt.Save(d, c[0], c[1], gen, "a"), api.ErrNil)
				want(t, what+" Save of much", ckpt.Save(d, c[0], c[1], gen, junks+junks), api.ErrNil)
			}
			wantLoad(t, what, d, c[0], c[1], 0, "", api.ErrNil)
		}
	}
}

// P7.2, P7.3: which blocks may be; that is told ahead of a text that is too long and of what the disk tells, and changes nothing.
func TestWhichBlocks(t *testing.T) {
	const size = 9
	all := []int{math.MinInt, math.MinInt + 1, math.MinInt32, -size, -4, -2, -1, 0, 1, 2, 3, 4, 5, 6, 7, 8, 9, 10, 12, math.MaxInt32, math.MaxInt - 3, math.MaxInt - 1, math.MaxInt}
	for _, from := range all {
		for _, n := range all {
			may := n%2 == 0 && n >= 4 && n <= size && from >= 0 && from <= size && from+n <= size
			d := junked(t, size)
			was := d.Sure()
			if may {
				wantLoad(t, "junk", d, from, n, 0, "", api.ErrNone)
				want(t, "Save", ckpt.Save(d, from, n, 1, "abc"), api.OK)
				wantLoad(t, "saved", d, from, n, 1, "abc", api.OK)
				continue
			}
			for range 2 {
				for _, text := range []string{"", "abc", strings.Repeat(junks, size)} {
					want(t, "Save to none", ckpt.Save(d, from, n, 1, text), api.ErrArg)
				}
				wantLoad(t, "none", d, from, n, 0, "", api.ErrArg)
				d.Fuse(0)
			}
			wantLoose(t, d)
			wantSure(t, "none", d, was)
		}
	}
}

// P7.2: which numbers may be; likewise ahead of all behind it.
func TestWhichNumbers(t *testing.T) {
	for _, gen := range []uint64{0, api.MaxGen + 1, api.MaxGen + 2, 1 << 63, 1<<63 + 1, math.MaxUint64 - 1, math.MaxUint64} {
		d := junked(t, 4)
		was := d.Sure()
		for range 2 {
			want(t, "Save", ckpt.Save(d, 0, 4, gen, "abc"), api.ErrArg)
			want(t, "Save of too much", ckpt.Save(d, 0, 4, gen, junks+"a"), api.ErrArg)
			d.Fuse(0)
		}
		wantLoose(t, d)
		wantSure(t, "such a number", d, was)
	}
	for _, gen := range []uint64{1, 2, 3, 255, 256, 1<<32 - 1, 1 << 32, 1<<32 + 1, 0x0123456789abcdef, api.MaxGen - 1, api.MaxGen} {
		d := junked(t, 4)
		want(t, "Save", ckpt.Save(d, 0, 4, gen, "abc"), api.OK)
		wantLoad(t, "saved", d, 0, 4, gen, "abc", api.OK)
	}
}

// P7.2: a text may have as many bytes as Room says, and no more; that is told ahead of what the disk tells.
func TestLong(t *testing.T) {
	for _, n := range []int{4, 6, 8, 100, api.MaxBlocks} {
		d := newDisk(t, n)
		full := odd(rand.New(rand.NewSource(int64(n))), ckpt.Room(n))
		for gen := uint64(1); gen <= 2; gen++ {
			want(t, "Save of all", ckpt.Save(d, 0, n, gen, full), api.OK)
			wantLoad(t, "all", d, 0, n, gen, full, api.OK)
		}
		was := d.Sure()
		for range 2 {
			for _, more := range []string{"a", "\x00", junks} {
				want(t, "Save of too much", ckpt.Save(d, 0, n, 3, full+more), api.ErrLong)
			}
			wantLoose(t, d)
			wantSure(t, "too much", d, was)
			d.Fuse(0)
		}
		want(t, "Save of all while down", ckpt.Save(d, 0, n, 3, full), api.ErrDown)
	}
}

// callsOf: which Writes and Syncs Save has to do.
func callsOf(from, n int, gen uint64, text string) []put {
	first := from + int(gen%2)*n/2
	l := []put{{first, zeros}, {}}
	for i, data := range textBlocks(text) {
		l = append(l, put{first + 1 + i, data})
	}
	return append(l, put{}, put{first, rightHead(gen, text)}, put{})
}

// wantDone: these calls were done on a disk of these blocks, and no more.
func wantDone(t *testing.T, what string, d *block.Disk, blocks []string, done []put) {
	t.Helper()
	sure, now := slices.Clone(blocks), slices.Clone(blocks)
	var loose []int
	for _, c := range done {
		if c.data == "" {
			sure, loose = slices.Clone(now), nil
			continue
		}
		now[c.block] = c.data
		loose = append(loose, c.block)
	}
	wantLoose(t, d, loose...)
	wantSure(t, what, d, strings.Join(sure, ""))
	for b, data := range now {
		if got, e := d.Read(b); got != data || e != api.OK {
			t.Errorf("%s: in block %d stands %.9q.., %v; want %.9q..", what, b, got, e, data)
		}
	}
}

// P7.2: which writes and Syncs there are, in which order; each may fail, and none is done behind it.
func TestSaveStepByStep(t *testing.T) {
	r := rand.New(rand.NewSource(1))
	for _, c := range [][3]int{{4, 0, 4}, {7, 2, 4}, {9, 1, 8}, {10, 0, 8}, {12, 0, 12}} {
		size, from, n := c[0], c[1], c[2]
		for _, bytes := range []int{0, 1, 255, 256, 257, 511, 512, 513, 700, ckpt.Room(n) - 1, ckpt.Room(n)} {
			if bytes > ckpt.Room(n) {
				continue
			}
			for _, gen := range []uint64{1, 2, 0x1234567890abcdef, api.MaxGen} {
				text := odd(r, bytes)
				todo := callsOf(from, n, gen, text)
				var blocks []string
				for range size {
					blocks = append(blocks, odd(r, api.BlockSize))
				}
				for k := range len(todo) + 1 {
					d := diskOf(t, blocks...)
					e := api.ErrDown
					if k == len(todo) {
						e = api.OK
					}
					d.Fuse(k)
					want(t, "Save", ckpt.Save(d, from, n, gen, text), e)
					d.Fuse(-1)
					wantDone(t, "Save", d, blocks, todo[:k])
				}
				if t.Failed() {
					t.Fatalf("blocks %d to %d of %d, number %d, %d bytes", from, from+n, size, gen, bytes)
				}
			}
		}
	}
}

// P7.2: the bytes of a slot, one by one.
func TestForm(t *testing.T) {
	d := junked(t, 6)
	want(t, "Save", ckpt.Save(d, 0, 6, 0x0807060504030201, "123456789"), api.OK)
	head := "\x01\x02\x03\x04\x05\x06\x07\x08" + "\x09\x00\x00\x00" + "\x83\x92\x06\xe3" + zeros[:239] + "\xa5"
	wantSure(t, "odd", d, junks+junks+junks+head+"123456789"+zeros[9:]+junks)
	want(t, "Save", ckpt.Save(d, 0, 6, 2, ""), api.OK)
	empty := "\x02" + zeros[:254] + "\xa5"
	wantSure(t, "even", d, empty+junks+junks+head+"123456789"+zeros[9:]+junks)
}

// P7.2: other writes that were loose are sure behind the first Sync; a Save that is refused does not touch them.
func TestOthersLoose(t *testing.T) {
	d := newDisk(t, 6)
	d.Write(5, junks)
	want(t, "Save", ckpt.Save(d, 0, 4, 0, "a"), api.ErrArg)
	wantLoad(t, "none", d, 0, 4, 0, "", api.ErrNone)
	wantLoose(t, d, 5)
	d.Fuse(1)
	want(t, "Save", ckpt.Save(d, 0, 4, 1, "a"), api.ErrDown)
	wantLoose(t, d, 5, 2)
	d.Fuse(1)
	want(t, "Save", ckpt.Save(d, 0, 4, 1, "a"), api.ErrDown)
	wantLoose(t, d, 5, 2, 2)
	d.Fuse(2)
	want(t, "Save", ckpt.Save(d, 0, 4, 1, "a"), api.ErrDown)
	wantLoose(t, d)
	d.Crash(nil)
	wantSure(t, "others", d, strings.Repeat(zeros, 5)+junks)
}

// P7.3: of two that are whole the one of the greater number, whichever slot it has.
func TestTheGreater(t *testing.T) {
	for _, c := range []struct{ even, odd uint64 }{
		{2, 1}, {2, 3}, {2, 1001}, {1000, 1}, {256, 255}, {256, 257}, {1 << 32, 1<<32 - 1}, {1 << 32, 1<<32 + 1},
		{1 << 40, 255}, {254, 1<<40 + 1}, {api.MaxGen, 1}, {api.MaxGen, api.MaxGen - 1}, {2, api.MaxGen - 1},
	} {
		for _, first := range []uint64{c.even, c.odd} {
			d := junked(t, 8)
			texts := map[uint64]string{c.even: "even", c.odd: "odd"}
			want(t, "Save", ckpt.Save(d, 1, 6, first, texts[first]), api.OK)
			wantLoad(t, "one", d, 1, 6, first, texts[first], api.OK)
			other := c.even ^ c.odd ^ first
			want(t, "Save", ckpt.Save(d, 1, 6, other, texts[other]), api.OK)
			last := max(c.even, c.odd)
			wantLoad(t, "both", d, 1, 6, last, texts[last], api.OK)
		}
	}
}

// P7.3: what stands, loose or sure, is what counts; reading changes nothing; a disk that stands still is told.
func TestLoadReadsWhatStands(t *testing.T) {
	blocks := slices.Concat(slotOf(2, 2, "two"), slotOf(2, 1, "one"))
	d := newDisk(t, 4)
	for b, data := range blocks {
		d.Write(b, data)
	}
	for range 3 {
		wantLoad(t, "loose", d, 0, 4, 2, "two", api.OK)
	}
	wantLoose(t, d, 0, 1, 2, 3)
	wantSure(t, "loose", d, strings.Repeat(zeros, 4))
	d.Fuse(1)
	for range 3 {
		wantLoad(t, "with a fuse", d, 0, 4, 2, "two", api.OK)
	}
	d.Fuse(0)
	wantLoad(t, "down", d, 0, 4, 0, "", api.ErrDown)
	d.Crash([]int{256, 256, 256})
	wantLoad(t, "behind a crash", d, 0, 4, 2, "two", api.OK)
	d = newDisk(t, 4)
	d.Fuse(0)
	wantLoad(t, "none, and down", d, 0, 4, 0, "", api.ErrDown)
}

// wantNotWhole: a slot of these blocks is none, by itself and beside one that is whole.
func wantNotWhole(t *testing.T, what string, odd int, slot []string) {
	t.Helper()
	n := len(slot)
	gen := uint64(1 + odd) // of the other slot
	other := slotOf(n, gen, "other")
	for _, beside := range [][]string{slices.Repeat([]string{zeros}, n), other} {
		blocks := slices.Concat([]string{junks}, slot, beside)
		if odd == 1 {
			blocks = slices.Concat([]string{junks}, beside, slot)
		}
		d := diskOf(t, blocks...)
		if beside[0] == zeros {
			wantLoad(t, what, d, 1, 2*n, 0, "", api.ErrNone)
		} else {
			wantLoad(t, what, d, 1, 2*n, gen, "other", api.OK)
		}
		wantLoose(t, d)
		wantSure(t, what, d, strings.Join(blocks, ""))
	}
}

func wantWhole(t *testing.T, what string, odd int, slot []string, gen uint64, text string) {
	t.Helper()
	n := len(slot)
	blocks := slices.Concat(slot, slices.Repeat([]string{junks}, n))
	if odd == 1 {
		blocks = slices.Concat(slices.Repeat([]string{junks}, n), slot)
	}
	wantLoad(t, what, diskOf(t, blocks...), 0, 2*n, gen, text, api.OK)
}

// P7.3: a slot of which any byte of the head, of the text, or behind it in its last block is another is not whole; what stands in other blocks does not count.
func TestTurnedBytes(t *testing.T) {
	r := rand.New(rand.NewSource(2))
	for _, size := range []int{0, 1, 9, 255, 256, 257, 300, 511, 512} {
		for odds := range 2 {
			gen := uint64(0x0102030405060708 + odds)
			text := odd(r, size)
			slot := slotOf(4, gen, text)
			wantWhole(t, "as it was", odds, slot, gen, text)
			used := 1 + len(textBlocks(text))
			for b := range slot {
				for at := range api.BlockSize {
					bits := byte(1) << r.Intn(8)
					if at == 0 && b == 0 {
						bits = 1 << (1 + r.Intn(7)) // numbers of the other slot: TestWrongHeads
					}
					s := slices.Clone(slot)
					s[b] = turned(s[b], at, bits)
					switch {
					case b >= used:
						wantWhole(t, "turned behind the text", odds, s, gen, text)
					case b == 0 && at < 8:
						other := gen ^ uint64(bits)<<(8*at)
						if other <= api.MaxGen {
							wantWhole(t, "another number", odds, s, other, text)
						} else {
							wantNotWhole(t, "a number above all", odds, s)
						}
					default:
						wantNotWhole(t, "turned", odds, s)
					}
				}
			}
			if t.Failed() {
				t.Fatalf("text of %d bytes, slot %d", size, odds)
			}
		}
	}
}

// P7.3: heads that are right but for what their numbers say.
func TestWrongHeads(t *testing.T) {
	const n = 3
	long := strings.Repeat("l", (n-1)*api.BlockSize)
	body := textBlocks(long)
	for odds := range 2 {
		for _, gen := range []uint64{uint64(2 + odds), uint64(256 + odds), api.MaxGen - uint64(odds)} {
			wantWhole(t, "all of it", odds, append([]string{rightHead(gen, long)}, body...), gen, long)
			wantNotWhole(t, "of the other slot", 1-odds, append([]string{rightHead(gen, long)}, body...))
			for _, size := range []uint32{uint32(len(long) + 1), uint32(len(long) + 255), uint32(len(long) + 256), 1 << 16, 1 << 24, 1<<31 - 1, 1 << 31, 1<<32 - 256, 1<<32 - 255, 1<<32 - 1} {
				for _, sum := range []uint32{0, sumOf(long), sumOf(long + "\x00")} {
					wantNotWhole(t, "a text that does not fit", odds, append([]string{headOf(gen, size, sum)}, body...))
				}
			}
			for _, size := range []uint32{0, 1, 255, 256, 511} {
				wantNotWhole(t, "another sum", odds, append([]string{headOf(gen, size, sumOf(long))}, body...))
			}
			for _, size := range []int{1, 255, 257, 511} {
				wantNotWhole(t, "more behind the text", odds, append([]string{rightHead(gen, long[:size])}, body...))
			}
			for _, size := range []int{0, 256, 512} {
				wantWhole(t, "blocks behind the text", odds, append([]string{rightHead(gen, long[:size])}, body...), gen, long[:size])
			}
		}
		for _, gen := range []uint64{0, api.MaxGen + 1, api.MaxGen + 2, 1 << 63, 1<<63 + 1, math.MaxUint64 - 1, math.MaxUint64} {
			wantNotWhole(t, "such a number", odds, append([]string{rightHead(gen, long)}, body...))
			wantNotWhole(t, "such a number", odds, append([]string{rightHead(gen, "")}, body...))
		}
		for _, data := range []string{zeros, junks, strings.Repeat("\xff", api.BlockSize), zeros[1:] + "\xa5"} {
			wantNotWhole(t, "no head", odds, []string{data, data, data})
		}
	}
}

// P7.3: the text of one more byte than there is room for stands in the other slot's blocks; it does not fit all the same.
func TestTextIntoTheOtherSlot(t *testing.T) {
	text := strings.Repeat("l", api.BlockSize) + "m"
	d := diskOf(t, rightHead(2, text), text[:api.BlockSize], "m"+zeros[1:], zeros)
	wantLoad(t, "too long", d, 0, 4, 0, "", api.ErrNone)
}

// P7.2, P7.3: texts as they were, of all kinds of bytes, also such as end in bytes 0.
func TestAnyText(t *testing.T) {
	all := make([]byte, 256)
	for i := range all {
		all[i] = byte(i)
	}
	d := junked(t, 12)
	gen := uint64(0)
	for _, text := range []string{"", "\x00", zeros, zeros + zeros, "a\x00", "\xa5", string(all), rightHead(9, "x"), strings.Repeat("\xff", 1280), zeros[1:], "é☃", "a" + zeros} {
		gen++
		want(t, "Save", ckpt.Save(d, 0, 12, gen, text), api.OK)
		wantLoad(t, "saved", d, 0, 12, gen, text, api.OK)
	}
}

// R6: checkpoints beside each other on one disk are apart.
func TestApart(t *testing.T) {
	d := newDisk(t, 10)
	for gen := uint64(1); gen < 6; gen++ {
		want(t, "Save", ckpt.Save(d, 0, 4, gen, strings.Repeat("a", int(gen))), api.OK)
		want(t, "Save", ckpt.Save(d, 4, 6, gen+7, strings.Repeat("b", int(gen)*100)), api.OK)
		wantLoad(t, "first", d, 0, 4, gen, strings.Repeat("a", int(gen)), api.OK)
		wantLoad(t, "second", d, 4, 6, gen+7, strings.Repeat("b", int(gen)*100), api.OK)
	}
}
