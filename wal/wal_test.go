package wal_test

import (
	"math"
	"math/rand"
	"slices"
	"strings"
	"testing"

	"reeve/api"
	"reeve/block"
	"reeve/frame"
	"reeve/wal"
)

const (
	room = api.BlockSize - 1
	junk = "\xee"
)

// zeros: a block of bytes 0.
var zeros = strings.Repeat("\x00", api.BlockSize)

// put: what is written to a block.
type put struct {
	block int
	data  string
}

func newDisk(t *testing.T, blocks int) *block.Disk {
	t.Helper()
	d, e := block.New(blocks)
	if e != api.OK {
		t.Fatalf("New(%d): %v", blocks, e)
	}
	return d
}

// junked: a disk of which all blocks are junk, and sure.
func junked(t *testing.T, blocks int) *block.Disk {
	t.Helper()
	d := newDisk(t, blocks)
	for b := range blocks {
		d.Write(b, strings.Repeat(junk, api.BlockSize))
	}
	d.Sync()
	return d
}

// cleared: a disk of blocks, all of them cleared.
func cleared(t *testing.T, blocks int) *block.Disk {
	t.Helper()
	d := newDisk(t, blocks)
	want(t, "Clear", wal.Clear(d, 0, blocks), api.OK)
	return d
}

func opened(t *testing.T, d *block.Disk, from, n int, records ...string) *wal.Log {
	t.Helper()
	l, r, e := wal.Open(d, from, n)
	if l == nil || e != api.OK || !slices.Equal(r, records) {
		t.Fatalf("Open(%d, %d) = %v, %.60q, %v; want %.60q", from, n, l, r, e, records)
	}
	return l
}

func want(t *testing.T, what string, got, want api.Errno) {
	t.Helper()
	if got != want {
		t.Errorf("%s: %v, want %v", what, got, want)
	}
}

func wantNone(t *testing.T, what string, d *block.Disk, from, n int, e api.Errno) {
	t.Helper()
	if l, r, got := wal.Open(d, from, n); l != nil || len(r) != 0 || got != e {
		t.Errorf("%s: Open(%d, %d) = %v, %.60q, %v; want %v", what, from, n, l, r, got, e)
	}
}

func wantSize(t *testing.T, l *wal.Log, size, rest int) {
	t.Helper()
	if l.Len() != size || l.Room() != rest {
		t.Errorf("Len, Room = %d, %d; want %d, %d", l.Len(), l.Room(), size, rest)
	}
}

func wantLoose(t *testing.T, d *block.Disk, l ...int) {
	t.Helper()
	if got := d.Loose(); !slices.Equal(got, l) {
		t.Errorf("Loose() = %v, want %v", got, l)
	}
}

// stands: what stands in blocks, one by one.
func stands(d *block.Disk, from, n int) []string {
	l := make([]string, n)
	for i := range l {
		l[i], _ = d.Read(from + i)
	}
	return l
}

func wantStands(t *testing.T, d *block.Disk, from int, blocks []string) {
	t.Helper()
	if got := stands(d, from, len(blocks)); !slices.Equal(got, blocks) {
		t.Errorf("blocks from %d on: %.300q; want %.300q", from, got, blocks)
	}
}

func framed(records ...string) string {
	var s strings.Builder
	for _, r := range records {
		f, _ := frame.Frame(r)
		s.WriteString(f)
	}
	return s.String()
}

// laid: the n blocks of a stream, as the chapter's words say it.
func laid(stream string, n int) []string {
	var l []string
	for range n {
		k := min(len(stream), room)
		l = append(l, stream[:k]+strings.Repeat("\x00", room-k)+string([]byte{byte(k)}))
		stream = stream[k:]
	}
	return l
}

// counts: a block's bytes, and another count.
func counts(data string, n int) string { return data[:room] + string([]byte{byte(n)}) }

// streamOf: the stream of blocks.
func streamOf(blocks []string) string {
	s := ""
	for _, b := range blocks {
		s += b[:b[room]]
		if b[room] != room {
			break
		}
	}
	return s
}

// mended: what Open has to write, in its two steps, and what it has to tell.
func mended(blocks []string) (steps [2][]put, records []string, e api.Errno) {
	stream := streamOf(blocks)
	records, good, e := frame.Scan(stream)
	if e != api.OK && e != api.ErrTorn {
		return steps, nil, api.ErrLog
	}
	for i, meant := range laid(stream[:good], len(blocks)) {
		between := counts(blocks[i], int(meant[room]))
		if between != blocks[i] {
			steps[0] = append(steps[0], put{i, between})
		}
		if meant != between {
			steps[1] = append(steps[1], put{i, meant})
		}
	}
	return steps, records, api.OK
}

// calls: each Write and Sync of steps; a Sync is a put of no bytes.
func calls(steps [2][]put) []put {
	var l []put
	for _, step := range steps {
		if len(step) > 0 {
			l = append(append(l, step...), put{})
		}
	}
	return l
}

func diskOf(t *testing.T, ahead int, blocks []string) *block.Disk {
	t.Helper()
	d := junked(t, ahead+len(blocks)+1)
	for i, b := range blocks {
		d.Write(ahead+i, b)
	}
	d.Sync()
	return d
}

// The chapter's examples.
func TestExamples(t *testing.T) {
	d := cleared(t, 4)
	l := opened(t, d, 0, 4)
	want(t, "Append", l.Append("ab"), api.OK)
	wantSize(t, l, 10, 1010)
	d.Crash(nil)
	l = opened(t, d, 0, 4)
	want(t, "Append", l.Append("ab"), api.OK)
	d.Sync()
	want(t, "Append", l.Append("c"), api.OK)
	d.Crash(nil)
	opened(t, d, 0, 4, "ab")
	wantNone(t, "blocks that are not there", d, 3, 2, api.ErrArg)
}

// P6.1, P6.2, R3: neither nil nor what block.New did not make is a disk; that is told ahead of all else.
func TestNoDisk(t *testing.T) {
	for what, d := range map[string]*block.Disk{"nil": nil, "zero": {}} {
		for _, c := range [][2]int{{0, 1}, {0, 0}, {-1, 1}, {0, -1}, {1, 1}, {math.MaxInt, math.MaxInt}} {
			want(t, what+" Clear", wal.Clear(d, c[0], c[1]), api.ErrNil)
			wantNone(t, what, d, c[0], c[1], api.ErrNil)
		}
	}
}

// P6.3, R3: neither nil nor what Open did not make is a log.
func TestNoLog(t *testing.T) {
	for what, l := range map[string]*wal.Log{"nil": nil, "zero": {}} {
		for range 2 {
			for _, r := range []string{"", "a", strings.Repeat("a", api.MaxFrame+1)} {
				want(t, what+" Append", l.Append(r), api.ErrNil)
			}
			wantSize(t, l, 0, 0)
		}
	}
}

// P6.1, P6.2: which blocks may be; ahead of what the disk tells, and changing nothing.
func TestWhichBlocks(t *testing.T) {
	const size = 5
	all := []int{math.MinInt, math.MinInt + 1, math.MinInt32, -size, -1, 0, 1, 2, 4, 5, 6, 9, math.MaxInt32, math.MaxInt - 1, math.MaxInt}
	for _, from := range all {
		for _, n := range all {
			may := from >= 0 && from <= size && n >= 1 && n <= size && from+n <= size
			d := junked(t, size)
			was := d.Sure()
			if may {
				want(t, "Clear", wal.Clear(d, from, n), api.OK)
				opened(t, d, from, n)
				continue
			}
			for range 2 {
				want(t, "Clear", wal.Clear(d, from, n), api.ErrArg)
				wantNone(t, "blocks", d, from, n, api.ErrArg)
				d.Fuse(0)
			}
			wantLoose(t, d)
			if d.Sure() != was {
				t.Errorf("%d, %d: blocks have changed", from, n)
			}
		}
	}
}

// P6.1: bytes 0 to these blocks, by rising numbers, and a Sync; to no others.
func TestClear(t *testing.T) {
	for _, c := range [][2]int{{0, 1}, {0, 6}, {5, 1}, {1, 4}, {2, 3}} {
		from, n := c[0], c[1]
		d := junked(t, 6)
		want(t, "Clear", wal.Clear(d, from, n), api.OK)
		wantLoose(t, d)
		for b := range 6 {
			if got := stands(d, b, 1)[0]; (got == zeros) != (b >= from && b < from+n) {
				t.Errorf("Clear(%d, %d): block %d is %.9q", from, n, b, got)
			}
		}
		wantSize(t, opened(t, d, from, n), 0, n*room)
	}
}

// P6.1: also blocks of bytes 0 are written; each call may fail.
func TestClearFails(t *testing.T) {
	for _, make := range []func(*testing.T, int) *block.Disk{newDisk, junked} {
		for k := range 5 {
			d := make(t, 6)
			d.Fuse(k)
			e := api.ErrDown
			if k == 4 {
				e = api.OK
			}
			want(t, "Clear", wal.Clear(d, 2, 3), e)
			if k < 4 {
				wantLoose(t, d, []int{2, 3, 4}[:min(k, 3)]...)
				d.Fuse(-1)
				wantStands(t, d, 2, slices.Repeat([]string{zeros}, min(k, 3)))
			} else {
				wantLoose(t, d)
			}
		}
	}
}

// P6.1: what was loose is sure, too, behind the Sync; a log is empty again.
func TestClearAgain(t *testing.T) {
	d := cleared(t, 3)
	l := opened(t, d, 0, 3)
	want(t, "Append", l.Append(strings.Repeat("a", 500)), api.OK)
	want(t, "Clear", wal.Clear(d, 0, 3), api.OK)
	d.Crash(nil)
	wantStands(t, d, 0, []string{zeros, zeros, zeros})
	opened(t, d, 0, 3)
}

// P6.2: blocks that a log wrote are left as they are, and nothing is Synced.
func TestOpenOfWhole(t *testing.T) {
	long := strings.Repeat("long", 100)
	for _, records := range [][]string{nil, {""}, {"a"}, {"a", "", "b"}, {long}, {long, "b", long}, {strings.Repeat("x", room-8)}, {strings.Repeat("x", room-7)}, {strings.Repeat("x", 5*room-8)}} {
		stream := framed(records...)
		d := diskOf(t, 2, laid(stream, 5))
		was := d.Sure()
		d.Write(0, zeros)
		l := opened(t, d, 2, 5, records...)
		wantSize(t, l, len(stream), 5*room-len(stream))
		wantLoose(t, d, 0)
		if d.Sure() != was {
			t.Error("blocks have changed")
		}
	}
}

// P6.2: bytes that a log did not write.
func TestOpenOfOthers(t *testing.T) {
	long := strings.Repeat("long", 100)
	turned := func(s string, at int) string { return s[:at] + string([]byte{s[at] ^ 1}) + s[at+1:] }
	for what, stream := range map[string]string{
		"sum":                  "\x01\x00\x00\x00a1234",
		"sum behind a record":  framed("ok") + turned(framed("abc"), 5),
		"sum ahead of another": turned(framed("abc"), 10) + framed("ok"),
		"length":               "\x01\x00\x01\x00",
		"length behind":        framed(long) + "\xff\xff\xff\xff",
		"eight bytes 0":        framed("a") + strings.Repeat("\x00", 8),
		"sum of a long one":    turned(framed(long), 300),
	} {
		d := diskOf(t, 1, laid(stream, 4))
		was := d.Sure()
		for range 2 {
			wantNone(t, what, d, 1, 4, api.ErrLog)
		}
		wantLoose(t, d)
		if d.Sure() != was {
			t.Errorf("%s: blocks have changed", what)
		}
		d.Fuse(0)
		wantNone(t, what+", down", d, 1, 4, api.ErrDown)
	}
}

// P6.2: what stands behind the stream's last block is not of the log, whatever it is.
func TestOpenWithMoreBehind(t *testing.T) {
	blocks := laid(framed("ab"), 3)
	blocks[1] = laid(framed("later"), 1)[0]
	blocks[2] = strings.Repeat("\xff", api.BlockSize)
	d := diskOf(t, 0, blocks)
	opened(t, d, 0, 3, "ab")
	wantStands(t, d, 0, laid(framed("ab"), 3))
	wantStands(t, d, 3, []string{strings.Repeat(junk, api.BlockSize)})
}

// odds: blocks as they may be found: of streams that were cut, with bytes and counts that are not of them.
func odds(r *rand.Rand) []string {
	n := 1 + r.Intn(5)
	stream := ""
	for len(stream) < n*room && r.Intn(5) > 0 {
		b := make([]byte, r.Intn(400))
		r.Read(b)
		stream += framed(string(b))
	}
	stream = stream[:min(len(stream), n*room)]
	if r.Intn(2) == 0 {
		stream = stream[:r.Intn(len(stream)+1)]
	}
	blocks := laid(stream, n)
	for i := range blocks {
		k := int(blocks[i][room])
		if r.Intn(3) == 0 {
			b := make([]byte, r.Intn(room-k+1))
			r.Read(b)
			blocks[i] = blocks[i][:k] + string(b) + blocks[i][k+len(b):]
		}
		if r.Intn(6) == 0 {
			blocks[i] = counts(blocks[i], []int{0, 1, room - 1, room, r.Intn(room)}[r.Intn(5)])
		}
	}
	return blocks
}

// P6.2: which writes and Syncs there are, in which order; each may fail.
func TestOpenMends(t *testing.T) {
	told := map[api.Errno]int{}
	for seed := range int64(1500) {
		r := rand.New(rand.NewSource(seed))
		blocks := odds(r)
		ahead, n := r.Intn(3), len(blocks)
		steps, records, e := mended(blocks)
		told[e]++
		if e != api.OK {
			wantNone(t, "other bytes", diskOf(t, ahead, blocks), ahead, n, e)
			continue
		}
		todo := calls(steps)
		for k := range todo {
			d := diskOf(t, ahead, blocks)
			d.Fuse(k)
			wantNone(t, "down", d, ahead, n, api.ErrDown)
			d.Fuse(-1)
			wantDone(t, d, ahead, blocks, todo[:k])
		}
		d := diskOf(t, ahead, blocks)
		if len(todo) > 0 { // a disk that stands still from the beginning is not read, either
			d.Fuse(len(todo))
		}
		l, got, e := wal.Open(d, ahead, n)
		d.Fuse(-1)
		if e != api.OK || !slices.Equal(got, records) {
			t.Errorf("Open = %.60q, %v; want %.60q", got, e, records)
		}
		wantDone(t, d, ahead, blocks, todo)
		wantStands(t, d, ahead, laid(framed(records...), n))
		wantSize(t, l, len(framed(records...)), n*room-len(framed(records...)))
		if t.Failed() {
			t.Fatalf("seed %d", seed)
		}
	}
	if told[api.OK] < 500 || told[api.ErrLog] < 50 {
		t.Errorf("too few of a kind: %v", told)
	}
}

// wantDone: these calls were done on these blocks, and no more.
func wantDone(t *testing.T, d *block.Disk, from int, blocks []string, done []put) {
	t.Helper()
	sure, now := slices.Clone(blocks), slices.Clone(blocks)
	var loose []int
	for _, c := range done {
		if c.data == "" {
			sure, loose = slices.Clone(now), nil
			continue
		}
		now[c.block] = c.data
		loose = append(loose, from+c.block)
	}
	wantLoose(t, d, loose...)
	wantStands(t, d, from, now)
	side := strings.Repeat(junk, api.BlockSize)
	if d.Sure() != strings.Repeat(side, from)+strings.Join(sure, "")+side {
		t.Error("what is sure is other than wanted")
	}
}

// P6.2: what is answered is the caller's own.
func TestOpenAgain(t *testing.T) {
	d := cleared(t, 2)
	l := opened(t, d, 0, 2)
	l.Append("a")
	l.Append("b")
	_, r, _ := wal.Open(d, 0, 2)
	r[0], r[1] = "x", "y"
	opened(t, d, 0, 2, "a", "b")
	want(t, "Append", l.Append("c"), api.OK)
	opened(t, d, 0, 2, "a", "b", "c")
}

// P6.3: which blocks are written, what they have then, and that nothing is Synced; all sizes at the blocks' edges.
func TestAppend(t *testing.T) {
	const n = 6
	for first := range 2 * room {
		d := junked(t, n+2)
		wal.Clear(d, 1, n)
		l := opened(t, d, 1, n)
		var records []string
		var loose []int
		for _, size := range []int{first, 0, room - 9, 1, room - 8, 3} {
			record := strings.Repeat(string([]byte{byte(first), byte(size)}), size)[:size]
			from := l.Len()
			want(t, "Append", l.Append(record), api.OK)
			records = append(records, record)
			stream := framed(records...)
			for b := from / room; b <= (len(stream)-1)/room; b++ {
				loose = append(loose, 1+b)
			}
			wantLoose(t, d, loose...)
			wantStands(t, d, 1, laid(stream, n))
			wantSize(t, l, len(stream), n*room-len(stream))
		}
		opened(t, d, 1, n, records...)
		wantStands(t, d, 0, []string{strings.Repeat(junk, api.BlockSize)})
		wantStands(t, d, n+1, []string{strings.Repeat(junk, api.BlockSize)})
		if t.Failed() {
			t.Fatalf("first of %d bytes", first)
		}
	}
}

// P6.3: records as they were, all kinds of bytes, up to frame's limit.
func TestAppendAnything(t *testing.T) {
	const n = 600
	d := cleared(t, n)
	l := opened(t, d, 0, n)
	all := make([]byte, 256)
	for i := range all {
		all[i] = byte(i)
	}
	records := []string{"", "\x00", "\xff\xff\xff\xff", string(all), framed("inside"), strings.Repeat("\x00", 1000), strings.Repeat("m", api.MaxFrame), "", strings.Repeat("n", api.MaxFrame-1), ""}
	for _, r := range records {
		want(t, "Append", l.Append(r), api.OK)
	}
	size := len(framed(records...))
	wantSize(t, l, size, n*room-size)
	want(t, "Append of too much", l.Append(strings.Repeat("m", api.MaxFrame+1)), api.ErrLong)
	wantSize(t, l, size, n*room-size)
	wantStands(t, d, 0, laid(framed(records...), n))
	opened(t, d, 0, n, records...)
}

// P6.3: full is what has no more room; what is refused changes nothing, and the log goes on.
func TestFull(t *testing.T) {
	for n := 1; n <= 4; n++ {
		for _, before := range []int{0, 1, 100, room - 16, room - 8} {
			d := junked(t, n+1)
			wal.Clear(d, 0, n)
			l := opened(t, d, 0, n)
			first := strings.Repeat("f", before)
			if n == 1 && before == room-8 {
				want(t, "Append", l.Append(first+"f"), api.ErrFull)
				want(t, "Append", l.Append(first), api.OK)
				wantSize(t, l, room, 0)
				want(t, "Append", l.Append(""), api.ErrFull)
				continue
			}
			want(t, "Append", l.Append(first), api.OK)
			rest := l.Room()
			loose := d.Loose()
			for _, more := range []int{1, 2, 8, room} {
				want(t, "Append of one too many", l.Append(strings.Repeat("x", rest-8+more)), api.ErrFull)
			}
			want(t, "Append of too much", l.Append(strings.Repeat("x", api.MaxFrame+1)), api.ErrLong)
			want(t, "Append of much", l.Append(strings.Repeat("x", api.MaxFrame)), api.ErrFull)
			wantLoose(t, d, loose...)
			wantSize(t, l, n*room-rest, rest)
			last := strings.Repeat("l", rest-8)
			want(t, "Append of the last", l.Append(last), api.OK)
			wantSize(t, l, n*room, 0)
			want(t, "Append", l.Append(""), api.ErrFull)
			wantSize(t, opened(t, d, 0, n, first, last), n*room, 0)
			wantStands(t, d, n, []string{strings.Repeat(junk, api.BlockSize)})
		}
	}
}

// P6.3: the greatest log takes small records to its end, in a time that does not hang on how long it is.
func TestManyRecords(t *testing.T) {
	d := cleared(t, api.MaxBlocks)
	l := opened(t, d, 0, api.MaxBlocks)
	n := 0
	for ; l.Room() >= 8; n++ {
		if e := l.Append(""); e != api.OK {
			t.Fatal(e)
		}
		if n%1000 == 0 {
			d.Sync() // the disk is slow while much is loose
		}
	}
	want(t, "Append", l.Append(""), api.ErrFull)
	d.Sync()
	if _, r, e := wal.Open(d, 0, api.MaxBlocks); len(r) != n || n != api.MaxBlocks*room/8 || e != api.OK {
		t.Errorf("%d of %d records, %v", len(r), n, e)
	}
}

// P6.3: an error of the disk is told once; then ErrState, ahead of all else, even when the disk goes again.
func TestBroken(t *testing.T) {
	record := strings.Repeat("r", 3*room) // four blocks
	for k := range 5 {
		d := cleared(t, 6)
		l := opened(t, d, 0, 6)
		want(t, "Append", l.Append("ab"), api.OK)
		d.Sync()
		d.Fuse(k)
		if k == 4 {
			want(t, "Append", l.Append(record), api.OK)
			want(t, "Append", l.Append(strings.Repeat("r", api.MaxFrame+1)), api.ErrLong)
			want(t, "Append", l.Append(strings.Repeat("r", 6*room)), api.ErrFull)
			wantSize(t, l, len(framed("ab", record)), 6*room-len(framed("ab", record)))
			record = ""
		}
		want(t, "Append", l.Append(record), api.ErrDown)
		loose := []int{0, 1, 2, 3}[:k]
		size := l.Len()
		for range 2 {
			for _, r := range []string{"", "a", strings.Repeat("r", 6*room), strings.Repeat("r", api.MaxFrame+1)} {
				want(t, "Append to a broken log", l.Append(r), api.ErrState)
			}
			wantSize(t, l, size, 6*room-size)
			wantLoose(t, d, loose...)
			d.Fuse(-1)
		}
		if k < 4 {
			wantSize(t, l, 10, 6*room-10)
			l = opened(t, d, 0, 6, "ab")
			want(t, "Append to it anew", l.Append("c"), api.OK)
			opened(t, d, 0, 6, "ab", "c")
		}
	}
}

// R5, R6: logs beside each other on one disk, and disks, are apart.
func TestLogsAreApart(t *testing.T) {
	d := newDisk(t, 7)
	wal.Clear(d, 0, 7)
	a, b := opened(t, d, 0, 3), opened(t, d, 3, 4)
	long := strings.Repeat("long", 100)
	for _, r := range []string{"a", long, "c"} {
		want(t, "Append", a.Append(r), api.OK)
		want(t, "Append", b.Append("b"+r), api.OK)
	}
	opened(t, d, 0, 3, "a", long, "c")
	opened(t, d, 3, 4, "ba", "b"+long, "bc")
	want(t, "Append", a.Append(long), api.ErrFull)
	want(t, "Append", b.Append(long), api.OK)
}
