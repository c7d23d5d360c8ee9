package block_test

import (
	"math"
	"math/rand"
	"slices"
	"strings"
	"testing"

	"reeve/api"
	"reeve/block"
)

// full: a block's bytes, all of them c.
func full(c string) string { return strings.Repeat(c, api.BlockSize) }

// torn: the first n bytes of now, the others of was.
func torn(now, was string, n int) string { return now[:n] + was[n:] }

// odd: a block's bytes, by chance.
func odd(r *rand.Rand) string {
	b := make([]byte, api.BlockSize)
	r.Read(b)
	return string(b)
}

func newDisk(t *testing.T, blocks int) *block.Disk {
	t.Helper()
	d, e := block.New(blocks)
	if d == nil || e != api.OK {
		t.Fatalf("New(%d) = %v, %v", blocks, d, e)
	}
	return d
}

func want(t *testing.T, what string, got, want api.Errno) {
	t.Helper()
	if got != want {
		t.Errorf("%s: %v, want %v", what, got, want)
	}
}

func wantRead(t *testing.T, d *block.Disk, b int, s string, e api.Errno) {
	t.Helper()
	if gotS, gotE := d.Read(b); gotS != s || gotE != e {
		t.Errorf("Read(%d) = %d bytes %.8q.., %v; want %d bytes %.8q.., %v", b, len(gotS), gotS, gotE, len(s), s, e)
	}
}

func wantLoose(t *testing.T, d *block.Disk, l ...int) {
	t.Helper()
	if got := d.Loose(); !slices.Equal(got, l) {
		t.Errorf("Loose() = %v, want %v", got, l)
	}
}

func wantSure(t *testing.T, d *block.Disk, blocks ...string) {
	t.Helper()
	if got, want := d.Sure(), strings.Join(blocks, ""); got != want {
		t.Errorf("Sure() = %d bytes, other ones than the %d wanted", len(got), len(want))
	}
}

// P5.1
func TestNew(t *testing.T) {
	for _, n := range []int{math.MinInt, -1 << 40, -api.MaxBlocks, -1, 0, api.MaxBlocks + 1, api.MaxBlocks * 2, 1<<32 + 1, math.MaxInt} {
		if d, e := block.New(n); d != nil || e != api.ErrArg {
			t.Errorf("New(%d) = %v, %v; want %v", n, d, e, api.ErrArg)
		}
	}
	for _, n := range []int{1, 2, 3, 255, 256, 257, api.MaxBlocks - 1, api.MaxBlocks} {
		d := newDisk(t, n)
		if d.Size() != n {
			t.Errorf("Size() = %d, want %d", d.Size(), n)
		}
		wantLoose(t, d)
		wantSure(t, d, strings.Repeat("\x00", n*api.BlockSize))
		wantRead(t, d, 0, full("\x00"), api.OK)
		wantRead(t, d, n-1, full("\x00"), api.OK)
		wantRead(t, d, n, "", api.ErrNone)
	}
}

// P5.1: Loose has one for each write, in order; Size stays.
func TestLooseAndSize(t *testing.T) {
	d := newDisk(t, 5)
	var l []int
	for _, b := range []int{3, 0, 3, 3, 4, 0} {
		want(t, "Write", d.Write(b, full("a")), api.OK)
		l = append(l, b)
		wantLoose(t, d, l...)
	}
	wantSure(t, d, strings.Repeat("\x00", 5*api.BlockSize))
	want(t, "Sync", d.Sync(), api.OK)
	wantLoose(t, d)
	wantSure(t, d, full("a"), full("\x00"), full("\x00"), full("a"), full("a"))
	want(t, "Write", d.Write(1, full("b")), api.OK)
	want(t, "Crash", d.Crash(nil), api.OK)
	wantLoose(t, d)
	if d.Size() != 5 {
		t.Errorf("Size() = %d", d.Size())
	}
}

// P5.1 to P5.4, R3: neither nil nor what New did not make is a disk.
func TestNil(t *testing.T) {
	for what, d := range map[string]*block.Disk{"nil": nil, "zero": {}} {
		for range 2 { // twice: what was tried changed nothing
			for _, b := range []int{-1, 0, 1} {
				wantRead(t, d, b, "", api.ErrNil)
				want(t, what+" Write", d.Write(b, full("a")), api.ErrNil)
				want(t, what+" Write of few", d.Write(b, "a"), api.ErrNil)
			}
			want(t, what+" Sync", d.Sync(), api.ErrNil)
			for _, n := range []int{-1, 0, 1} {
				want(t, what+" Fuse", d.Fuse(n), api.ErrNil)
			}
			want(t, what+" Crash", d.Crash(nil), api.ErrNil)
			want(t, what+" Crash with picks", d.Crash([]int{api.BlockSize}), api.ErrNil)
			if d.Size() != 0 || d.Loose() != nil || d.Sure() != "" {
				t.Errorf("%s: %d, %v, %q", what, d.Size(), d.Loose(), d.Sure())
			}
		}
	}
}

// The chapter's examples.
func TestExamples(t *testing.T) {
	d := newDisk(t, 1)
	want(t, "Write", d.Write(0, full("a")), api.OK)
	want(t, "Crash", d.Crash([]int{3}), api.OK)
	wantRead(t, d, 0, "aaa"+strings.Repeat("\x00", api.BlockSize-3), api.OK)

	d = newDisk(t, 1)
	want(t, "Write", d.Write(0, full("a")), api.OK)
	want(t, "Sync", d.Sync(), api.OK)
	want(t, "Write", d.Write(0, full("b")), api.OK)
	want(t, "Crash", d.Crash(nil), api.OK)
	wantRead(t, d, 0, full("a"), api.OK)

	d = newDisk(t, 1)
	want(t, "Fuse", d.Fuse(1), api.OK)
	want(t, "Write", d.Write(0, full("a")), api.OK)
	want(t, "Write", d.Write(0, full("a")), api.ErrDown)
}

// P5.2: what stands in a block is its last write that is loose, else what is sure.
func TestWhatStands(t *testing.T) {
	d := newDisk(t, 3)
	d.Write(1, full("a"))
	wantRead(t, d, 1, full("a"), api.OK)
	d.Write(1, full("b"))
	d.Write(2, full("c"))
	wantRead(t, d, 0, full("\x00"), api.OK)
	wantRead(t, d, 1, full("b"), api.OK)
	wantRead(t, d, 2, full("c"), api.OK)
	d.Write(1, full("d"))
	d.Sync()
	wantSure(t, d, full("\x00"), full("d"), full("c"))
	wantRead(t, d, 1, full("d"), api.OK)
	d.Write(1, full("e"))
	wantRead(t, d, 1, full("e"), api.OK)
	wantRead(t, d, 2, full("c"), api.OK)
	wantSure(t, d, full("\x00"), full("d"), full("c"))
	d.Sync()
	d.Sync()
	wantSure(t, d, full("\x00"), full("e"), full("c"))
}

// P5.2: all bytes stand where they were put.
func TestAllBytes(t *testing.T) {
	r := rand.New(rand.NewSource(1))
	d := newDisk(t, 2)
	for range 20 {
		s := odd(r)
		d.Write(1, s)
		wantRead(t, d, 1, s, api.OK)
		d.Sync()
		wantRead(t, d, 1, s, api.OK)
		wantSure(t, d, full("\x00"), s)
	}
}

// P5.2: each error, and which of several is told; an error changes nothing.
func TestErrors(t *testing.T) {
	d := newDisk(t, 3)
	d.Write(0, full("a"))
	d.Sync()
	d.Write(1, full("b"))
	wrong := []int{math.MinInt, -api.BlockSize, -1, 3, 4, api.BlockSize, api.MaxBlocks, 1 << 32, math.MaxInt}
	short := []string{"", "a", full("a")[1:], full("a") + "a", full("a") + full("a")}
	for _, b := range wrong {
		wantRead(t, d, b, "", api.ErrNone)
		want(t, "Write to none", d.Write(b, full("x")), api.ErrNone)
		for _, s := range short {
			want(t, "Write of wrong bytes to none", d.Write(b, s), api.ErrNone)
		}
	}
	for _, s := range short {
		want(t, "Write of wrong bytes", d.Write(0, s), api.ErrArg)
	}
	wantLoose(t, d, 1)
	wantSure(t, d, full("a"), full("\x00"), full("\x00"))
	d.Fuse(0)
	for _, b := range append(wrong, 0, 1, 2) {
		wantRead(t, d, b, "", api.ErrDown)
		for _, s := range append(short, full("x")) {
			want(t, "Write while down", d.Write(b, s), api.ErrDown)
		}
	}
	want(t, "Sync while down", d.Sync(), api.ErrDown)
	wantLoose(t, d, 1)
	wantSure(t, d, full("a"), full("\x00"), full("\x00"))
}

// P5.3: as many calls as the fuse says; not one less, not one more.
func TestFuseCounts(t *testing.T) {
	for n := range 12 {
		for sync := range 4 { // which calls are Syncs
			d := newDisk(t, 2)
			want(t, "Fuse", d.Fuse(n), api.OK)
			for i := range n {
				wantRead(t, d, 0, readOf(d, 0), api.OK)
				want(t, "Write to none", d.Write(2, full("x")), api.ErrNone)
				want(t, "Write of few bytes", d.Write(0, "x"), api.ErrArg)
				if i%4 < sync {
					want(t, "Sync", d.Sync(), api.OK)
				} else {
					want(t, "Write", d.Write(0, full("a")), api.OK)
				}
			}
			for range 3 {
				wantRead(t, d, 0, "", api.ErrDown)
				wantRead(t, d, 2, "", api.ErrDown)
				want(t, "Write", d.Write(0, full("b")), api.ErrDown)
				want(t, "Sync", d.Sync(), api.ErrDown)
			}
		}
	}
}

func readOf(d *block.Disk, b int) string {
	s, _ := d.Read(b)
	return s
}

// P5.3: what was done ahead of the end is done; what comes behind it is not.
func TestFuseKeepsWhatWasDone(t *testing.T) {
	d := newDisk(t, 2)
	d.Fuse(3)
	d.Write(0, full("a"))
	d.Sync()
	d.Write(1, full("b"))
	d.Write(1, full("c"))
	d.Sync()
	wantLoose(t, d, 1)
	wantSure(t, d, full("a"), full("\x00"))
	if d.Size() != 2 {
		t.Errorf("Size() = %d", d.Size())
	}
	want(t, "Fuse", d.Fuse(-1), api.OK)
	wantRead(t, d, 1, full("b"), api.OK)
}

// P5.3: a new fuse takes the place of the old one, also of one that has burnt; below 0 there is none.
func TestFuseAnew(t *testing.T) {
	for _, none := range []int{-1, -2, math.MinInt} {
		for _, was := range []int{0, 1, 5} {
			d := newDisk(t, 1)
			d.Fuse(was)
			want(t, "Fuse", d.Fuse(none), api.OK)
			for range 50 {
				want(t, "Write", d.Write(0, full("a")), api.OK)
				want(t, "Sync", d.Sync(), api.OK)
			}
			wantRead(t, d, 0, full("a"), api.OK)
		}
	}
	for _, was := range []int{-1, 0, 1, 9, math.MaxInt} {
		d := newDisk(t, 1)
		d.Fuse(was)
		d.Write(0, full("a"))
		want(t, "Fuse", d.Fuse(2), api.OK)
		wantRead(t, d, 0, readOf(d, 0), api.OK)
		want(t, "Sync", d.Sync(), api.OK)
		want(t, "Sync", d.Sync(), api.OK)
		want(t, "Sync", d.Sync(), api.ErrDown)
	}
}

// P5.3: a great fuse is none for long.
func TestFuseOfMuch(t *testing.T) {
	d := newDisk(t, 1)
	d.Fuse(math.MaxInt)
	for range 100 {
		want(t, "Sync", d.Sync(), api.OK)
	}
}

// P5.4: one write, by each pick.
func TestCrashByPick(t *testing.T) {
	r := rand.New(rand.NewSource(2))
	for pick := -3; pick <= api.BlockSize+3; pick++ {
		was, now := odd(r), odd(r)
		d := newDisk(t, 3)
		d.Write(1, was)
		d.Sync()
		d.Write(1, now)
		want(t, "Crash", d.Crash([]int{pick}), api.OK)
		is := torn(now, was, min(max(pick, 0), api.BlockSize))
		wantRead(t, d, 1, is, api.OK)
		wantSure(t, d, full("\x00"), is, full("\x00"))
		wantLoose(t, d)
	}
	for pick, is := range map[int]string{math.MinInt: "w", -1 << 32: "w", 1 << 32: "n", math.MaxInt: "n"} {
		d := newDisk(t, 1)
		d.Write(0, full("w"))
		d.Sync()
		d.Write(0, full("n"))
		want(t, "Crash", d.Crash([]int{pick}), api.OK)
		wantRead(t, d, 0, full(is), api.OK)
	}
}

// P5.4: picks go to writes in the order in which they were made; without one a write is lost.
func TestCrashInOrder(t *testing.T) {
	const all = api.BlockSize
	for _, c := range []struct {
		picks []int
		is    [2]string
	}{
		{nil, [2]string{full("\x00"), full("\x00")}},
		{[]int{}, [2]string{full("\x00"), full("\x00")}},
		{[]int{all}, [2]string{full("a"), full("\x00")}},
		{[]int{0, all}, [2]string{full("\x00"), full("b")}},
		{[]int{0, 0, all}, [2]string{full("c"), full("\x00")}},
		{[]int{all, all, 1}, [2]string{torn(full("c"), full("a"), 1), full("b")}},
		{[]int{1, 2, all}, [2]string{full("c"), torn(full("b"), full("\x00"), 2)}},
		{[]int{5, 0, 3}, [2]string{"cccaa" + full("\x00")[5:], full("\x00")}},
		{[]int{3, 0, 5}, [2]string{"ccccc" + full("\x00")[5:], full("\x00")}},
		{[]int{all, 0, -1, all, all, 7}, [2]string{full("a"), full("\x00")}},
	} {
		d := newDisk(t, 2)
		d.Write(0, full("a"))
		d.Write(1, full("b"))
		d.Write(0, full("c"))
		want(t, "Crash", d.Crash(c.picks), api.OK)
		wantSure(t, d, c.is[0], c.is[1])
		wantRead(t, d, 0, c.is[0], api.OK)
		wantRead(t, d, 1, c.is[1], api.OK)
		wantLoose(t, d)
	}
}

// P5.4: behind a crash there is no fuse, whether it had burnt or not.
func TestCrashTakesTheFuse(t *testing.T) {
	for _, n := range []int{-1, 0, 1, 2, 3, 9} {
		d := newDisk(t, 1)
		d.Fuse(n)
		done := d.Write(0, full("a")) == api.OK
		want(t, "Crash", d.Crash([]int{api.BlockSize}), api.OK)
		is := "\x00"
		if done {
			is = "a"
		}
		wantRead(t, d, 0, full(is), api.OK)
		for range 20 {
			want(t, "Write", d.Write(0, full("b")), api.OK)
			want(t, "Sync", d.Sync(), api.OK)
		}
		wantRead(t, d, 0, full("b"), api.OK)
	}
}

// P5.4: with nothing loose a crash changes nothing, however many picks there are.
func TestCrashOfNothing(t *testing.T) {
	d := newDisk(t, 1)
	want(t, "Crash", d.Crash([]int{1, 2, 3}), api.OK)
	wantSure(t, d, full("\x00"))
	d.Write(0, full("a"))
	d.Sync()
	want(t, "Crash", d.Crash([]int{api.BlockSize, 9}), api.OK)
	wantSure(t, d, full("a"))
}

// P5.5: what was synced stays in blocks that were not written again; the others have, byte by byte, what was sure or
// what one of their loose writes had.
func TestWhatStaysBehindACrash(t *testing.T) {
	r := rand.New(rand.NewSource(3))
	for range 300 {
		blocks := 1 + r.Intn(6)
		d := newDisk(t, blocks)
		may := make([][]string, blocks)
		for b := range blocks {
			s := odd(r)
			d.Write(b, s)
			may[b] = []string{s}
		}
		d.Sync()
		var picks []int
		for range r.Intn(8) {
			b, s := r.Intn(blocks), odd(r)
			d.Write(b, s)
			may[b] = append(may[b], s)
			picks = append(picks, r.Intn(api.BlockSize+20)-10)
		}
		d.Crash(picks[:r.Intn(len(picks)+1)])
		for b := range blocks {
			wantOneOf(t, readOf(d, b), may[b])
		}
	}
}

func wantOneOf(t *testing.T, s string, may []string) {
	t.Helper()
	if len(s) != api.BlockSize {
		t.Fatalf("%d bytes of a block", len(s))
	}
	for i := range len(s) {
		if !slices.ContainsFunc(may, func(m string) bool { return m[i] == s[i] }) {
			t.Fatalf("byte %d is %x, that none of %d had", i, s[i], len(may))
		}
	}
}

// R5: what is handed in is not changed, what is answered is not kept.
func TestOwnMemory(t *testing.T) {
	d := newDisk(t, 2)
	d.Write(1, full("a"))
	d.Write(0, full("b"))
	l := d.Loose()
	l[0], l[1] = 7, 7
	wantLoose(t, d, 1, 0)
	was := readOf(d, 1)
	sure := d.Sure()
	picks := []int{300, -4, 5}
	d.Crash(picks)
	if !slices.Equal(picks, []int{300, -4, 5}) {
		t.Errorf("picks are now %v", picks)
	}
	picks[0] = 0
	d.Write(1, full("c"))
	d.Sync()
	if was != full("a") || sure != full("\x00")+full("\x00") {
		t.Error("what was told has changed")
	}
	wantSure(t, d, full("\x00"), full("c"))
}

// R5, R6: disks are apart.
func TestDisksAreApart(t *testing.T) {
	a, b := newDisk(t, 1), newDisk(t, 1)
	a.Write(0, full("a"))
	a.Sync()
	a.Fuse(0)
	wantRead(t, b, 0, full("\x00"), api.OK)
	wantSure(t, b, full("\x00"))
	want(t, "Sync", b.Sync(), api.OK)
}

// model: a disk as the chapter's words say it; all that was written, in order, and what is sure, in texts.
type model struct {
	sure   []string
	blocks []int
	texts  []string
	left   int
	fused  bool
}

func (m *model) down() bool { return m.fused && m.left == 0 }

func (m *model) read(b int) (string, api.Errno) {
	switch {
	case m.down():
		return "", api.ErrDown
	case b < 0 || b >= len(m.sure):
		return "", api.ErrNone
	}
	s := m.sure[b]
	for i, at := range m.blocks {
		if at == b {
			s = m.texts[i]
		}
	}
	return s, api.OK
}

func (m *model) write(b int, s string) api.Errno {
	if _, e := m.read(b); e != api.OK {
		return e
	}
	if len(s) != api.BlockSize {
		return api.ErrArg
	}
	m.left--
	m.blocks, m.texts = append(m.blocks, b), append(m.texts, s)
	return api.OK
}

func (m *model) sync() api.Errno {
	if m.down() {
		return api.ErrDown
	}
	m.left--
	for i, b := range m.blocks {
		m.sure[b] = m.texts[i]
	}
	m.blocks, m.texts = nil, nil
	return api.OK
}

func (m *model) crash(picks []int) {
	for i, b := range m.blocks {
		pick := 0
		if i < len(picks) {
			pick = picks[i]
		}
		m.sure[b] = torn(m.texts[i], m.sure[b], min(max(pick, 0), api.BlockSize))
	}
	m.blocks, m.texts, m.fused = nil, nil, false
}

// step does one call, by chance, of both.
func step(t *testing.T, r *rand.Rand, d *block.Disk, m *model) {
	t.Helper()
	b := r.Intn(len(m.sure)+2) - 1
	switch r.Intn(12) {
	case 0, 1, 2, 3:
		s := odd(r)
		if r.Intn(8) == 0 {
			s = s[r.Intn(len(s)):] // seldom a whole block
		}
		want(t, "Write", d.Write(b, s), m.write(b, s))
	case 4, 5, 6:
		s, e := m.read(b)
		wantRead(t, d, b, s, e)
	case 7:
		want(t, "Sync", d.Sync(), m.sync())
	case 8:
		n := r.Intn(12) - 3
		want(t, "Fuse", d.Fuse(n), api.OK)
		m.left, m.fused = n, n >= 0
	case 9:
		picks := make([]int, r.Intn(6))
		for i := range picks {
			picks[i] = r.Intn(api.BlockSize+40) - 20
		}
		want(t, "Crash", d.Crash(picks), api.OK)
		m.crash(picks)
	case 10:
		wantLoose(t, d, m.blocks...)
	case 11:
		wantSure(t, d, m.sure...)
	}
}

// P5.1 to P5.4: any calls, one behind the other, as the words say it.
func TestAnyCalls(t *testing.T) {
	for seed := range int64(60) {
		r := rand.New(rand.NewSource(seed))
		blocks := 1 + r.Intn(5)
		d, m := newDisk(t, blocks), &model{}
		for range blocks {
			m.sure = append(m.sure, full("\x00"))
		}
		for i := range 400 {
			step(t, r, d, m)
			if t.Failed() {
				t.Fatalf("seed %d, step %d", seed, i)
			}
		}
		wantLoose(t, d, m.blocks...)
		wantSure(t, d, m.sure...)
	}
}
