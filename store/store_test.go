package store_test

import (
	"math"
	"reflect"
	"slices"
	"strings"
	"testing"

	"reeve/api"
	"reeve/block"
	"reeve/ckpt"
	"reeve/store"
	"reeve/wal"
)

const (
	frameSize = 8                 // bytes of a frame beside its text
	logRoom   = api.BlockSize - 1 // bytes of a log that a block has
	junk      = "\xee"
)

// small: the least conf that has two blocks a log.
var small = api.StoreConf{Ckpt: 2, Log: 2}

// junked: a disk of which all blocks are junk, and sure.
func junked(t *testing.T, blocks int) *block.Disk {
	t.Helper()
	d, e := block.New(blocks)
	if e != api.OK {
		t.Fatalf("New(%d): %v", blocks, e)
	}
	for b := range blocks {
		d.Write(b, strings.Repeat(junk, api.BlockSize))
	}
	d.Sync()
	return d
}

// copyOf: a disk with the same that is sure, and nothing loose.
func copyOf(t *testing.T, d *block.Disk) *block.Disk {
	t.Helper()
	c := junked(t, d.Size())
	for b, data := range blocksOf(d) {
		c.Write(b, data)
	}
	c.Sync()
	return c
}

// blocksOf: what is sure, block by block.
func blocksOf(d *block.Disk) []string {
	var l []string
	for sure := d.Sure(); sure != ""; sure = sure[api.BlockSize:] {
		l = append(l, sure[:api.BlockSize])
	}
	return l
}

// made: a disk that has a store, and some blocks of junk behind it.
func made(t *testing.T, c api.StoreConf) *block.Disk {
	t.Helper()
	d := junked(t, store.Blocks(c)+2)
	want(t, "Make", store.Make(d, c), api.OK)
	return d
}

// madeOf: a disk whose store has a checkpoint of this number, and these records, all sure.
func madeOf(t *testing.T, c api.StoreConf, gen uint64, text string, records ...string) *block.Disk {
	t.Helper()
	d := junked(t, store.Blocks(c)+2)
	from := 2*c.Ckpt + int(gen%2)*c.Log
	want(t, "Save", ckpt.Save(d, 0, 2*c.Ckpt, gen, text), api.OK)
	want(t, "Clear", wal.Clear(d, from, c.Log), api.OK)
	l, _, e := wal.Open(d, from, c.Log)
	want(t, "Open of a log", e, api.OK)
	for _, record := range records {
		want(t, "Append to a log", l.Append(record), api.OK)
	}
	d.Sync()
	return d
}

func want(t *testing.T, what string, got, want api.Errno) {
	t.Helper()
	if got != want {
		t.Errorf("%s: %v, want %v", what, got, want)
	}
}

// opened: the store on a disk, which must have this.
func opened(t *testing.T, d *block.Disk, c api.StoreConf, gen uint64, text string, records ...string) *store.Store {
	t.Helper()
	s, k, e := store.Open(d, c)
	if s == nil || e != api.OK || k.Gen != gen || k.Ckpt != text || !slices.Equal(k.Records, records) {
		t.Fatalf("Open = %d, %.40q, %.60q, %v; want %d, %.40q, %.60q", k.Gen, k.Ckpt, k.Records, e, gen, text, records)
	}
	wantHas(t, "opened", s, gen, roomBehind(c, records...))
	return s
}

// roomBehind: how many bytes a log has left behind records.
func roomBehind(c api.StoreConf, records ...string) int {
	n := c.Log * logRoom
	for _, record := range records {
		n -= frameSize + len(record)
	}
	return n
}

func wantHas(t *testing.T, what string, s *store.Store, gen uint64, room int) {
	t.Helper()
	if s.Gen() != gen || s.Room() != room {
		t.Errorf("%s: Gen, Room = %d, %d; want %d, %d", what, s.Gen(), s.Room(), gen, room)
	}
}

func wantNone(t *testing.T, what string, d *block.Disk, c api.StoreConf, e api.Errno) {
	t.Helper()
	if s, k, got := store.Open(d, c); s != nil || k.Gen != 0 || k.Ckpt != "" || len(k.Records) != 0 || got != e {
		t.Errorf("%s: Open = %v, %v, %v; want %v", what, s, k, got, e)
	}
}

// stands: what stands in all blocks, what is loose, and what is sure.
type stands struct {
	read  []string
	loose []int
	sure  string
}

func standing(d *block.Disk) stands {
	d.Fuse(-1)
	var l []string
	for b := range d.Size() {
		data, _ := d.Read(b)
		l = append(l, data)
	}
	return stands{l, d.Loose(), d.Sure()}
}

func wantSame(t *testing.T, what string, got, want stands) {
	t.Helper()
	if !slices.Equal(got.read, want.read) || !slices.Equal(got.loose, want.loose) || got.sure != want.sure {
		t.Errorf("%s: the disk is other than wanted: loose %v, want %v", what, got.loose, want.loose)
	}
}

// The chapter's examples.
func TestExamples(t *testing.T) {
	d, _ := block.New(8)
	if n := store.Blocks(small); n != 8 {
		t.Errorf("Blocks = %d", n)
	}
	want(t, "Make", store.Make(d, small), api.OK)
	want(t, "Make again", store.Make(d, small), api.ErrThere)
	s := opened(t, d, small, 1, "")
	want(t, "Append", s.Append("a"), api.OK)
	want(t, "Sync", s.Sync(), api.OK)
	want(t, "Append", s.Append("b"), api.OK)
	d.Crash(nil)
	s = opened(t, d, small, 1, "", "a")
	want(t, "Trim", s.Trim("xy"), api.OK)
	want(t, "Append", s.Append("c"), api.OK)
	want(t, "Sync", s.Sync(), api.OK)
	d.Crash(nil)
	opened(t, d, small, 2, "xy", "c")
}

// What a store promotes anybody can call: it is no more than the chapter names.
func TestMethods(t *testing.T) {
	var l []string
	for m := range reflect.TypeFor[*store.Store]().Methods() {
		l = append(l, m.Name)
	}
	if !slices.Equal(l, []string{"Append", "Gen", "Room", "Sync", "Trim"}) {
		t.Errorf("methods: %v", l)
	}
}

// P8.1
func TestBlocks(t *testing.T) {
	numbers := []int{math.MinInt, math.MinInt + 2, math.MinInt32, -1024, -256, -2, -1, 0, 1, 2, 3, 4, 100, 255, 256, 257, 258, 1023, 1024, 1025, 2048, 4096, math.MaxInt32, 1<<32 + 2, math.MaxInt/2 + 2, math.MaxInt - 1, math.MaxInt}
	for _, n := range numbers {
		for _, m := range numbers {
			blocks := 0
			if n >= 2 && n <= 256 && m >= 1 && m <= 1024 {
				blocks = n + n + m + m
			}
			c := api.StoreConf{Ckpt: n, Log: m}
			if got := store.Blocks(c); got != blocks {
				t.Errorf("Blocks(%v) = %d, want %d", c, got, blocks)
			}
		}
	}
}

// P8.1, P8.2, R3: neither nil nor what block.New did not make is a disk; that is told ahead of all else.
func TestNoDisk(t *testing.T) {
	for what, d := range map[string]*block.Disk{"nil": nil, "zero": {}} {
		for _, c := range []api.StoreConf{small, {}, {Ckpt: 1, Log: 2}, {Ckpt: 2, Log: -1}, {Ckpt: math.MaxInt, Log: math.MaxInt}} {
			want(t, what, store.Make(d, c), api.ErrNil)
			wantNone(t, what, d, c, api.ErrNil)
		}
	}
}

// P8.3, R3: neither nil nor what Open did not make is a store; that is told ahead of all else.
func TestNoStore(t *testing.T) {
	for what, s := range map[string]*store.Store{"nil": nil, "zero": {}} {
		for _, text := range []string{"", "a", strings.Repeat("a", api.MaxFrame+1)} {
			want(t, what+" Append", s.Append(text), api.ErrNil)
			want(t, what+" Trim", s.Trim(text), api.ErrNil)
		}
		want(t, what+" Sync", s.Sync(), api.ErrNil)
		wantHas(t, what, s, 0, 0)
	}
}

// P8.1, P8.2: a conf that may not be, and a disk that is too small, are told ahead of what the disk tells, and change nothing.
func TestWhichConf(t *testing.T) {
	bad := []struct {
		c      api.StoreConf
		blocks int
	}{
		{api.StoreConf{}, 8},
		{api.StoreConf{Ckpt: 1, Log: 2}, 8},
		{api.StoreConf{Ckpt: 257, Log: 2}, api.MaxBlocks},
		{api.StoreConf{Ckpt: 2, Log: 0}, 8},
		{api.StoreConf{Ckpt: 2, Log: 1025}, api.MaxBlocks},
		{api.StoreConf{Ckpt: -2, Log: 2}, 8},
		{api.StoreConf{Ckpt: 4, Log: -2}, 8},
		{api.StoreConf{Ckpt: math.MinInt, Log: math.MinInt}, 8},
		{api.StoreConf{Ckpt: math.MaxInt/2 + 3, Log: 1}, 8},
		{small, 7},
		{small, 1},
		{api.StoreConf{Ckpt: 2, Log: 1}, 5},
		{api.StoreConf{Ckpt: 256, Log: 1024}, 2559},
	}
	for _, b := range bad {
		d := junked(t, b.blocks)
		was := standing(d)
		for _, fuse := range []int{-1, 0} {
			d.Fuse(fuse)
			want(t, "Make", store.Make(d, b.c), api.ErrArg)
			wantNone(t, "no conf", d, b.c, api.ErrArg)
		}
		wantSame(t, "no conf", standing(d), was)
	}
	for _, c := range []api.StoreConf{small, {Ckpt: 2, Log: 1}, {Ckpt: 256, Log: 1024}, {Ckpt: 2, Log: 1024}, {Ckpt: 256, Log: 1}} {
		for _, more := range []int{0, 1, 100} {
			d := junked(t, store.Blocks(c)+more)
			want(t, "Make", store.Make(d, c), api.OK)
			opened(t, d, c, 1, "")
		}
	}
}

// twin does the same as is wanted of a store, call by call of the layers below, up to the first error.
func twin(steps ...func() api.Errno) api.Errno {
	for _, do := range steps {
		if e := do(); e != api.OK {
			return e
		}
	}
	return api.OK
}

// P8.1: the log of number 1 is cleared, then number 1 is saved; cut behind each number of calls.
func TestMakeStepByStep(t *testing.T) {
	for _, c := range []api.StoreConf{{Ckpt: 2, Log: 1}, small, {Ckpt: 5, Log: 7}} {
		cuts := c.Log + 1 + 5 // Clear; a head, Sync, no text, Sync, a head, Sync
		for k := range cuts + 1 {
			d, like := junked(t, 30), junked(t, 30)
			d.Fuse(k)
			like.Fuse(k)
			got := store.Make(d, c)
			want(t, "Make", got, twin(
				func() api.Errno { return wal.Clear(like, 2*c.Ckpt+c.Log, c.Log) },
				func() api.Errno { return ckpt.Save(like, 0, 2*c.Ckpt, 1, "") },
			))
			if (got == api.OK) != (k == cuts) {
				t.Errorf("%v, cut behind %d calls: %v", c, k, got)
			}
			wantSame(t, "Make", standing(d), standing(like))
		}
	}
}

// P8.1: what Load finds, or tells, ends Make, and nothing is written.
func TestMakeThere(t *testing.T) {
	for _, gen := range []uint64{1, 2, 3, 77, api.MaxGen} {
		d := junked(t, 8)
		ckpt.Save(d, 0, 4, gen, "abc")
		was := standing(d)
		want(t, "Make", store.Make(d, small), api.ErrThere)
		d.Fuse(0)
		want(t, "Make on a disk that stands still", store.Make(d, small), api.ErrDown)
		wantSame(t, "Make", standing(d), was)
	}
}

// P8.1: what is there of another conf counts as far as Load finds it there.
func TestMakeOverOthers(t *testing.T) {
	d := junked(t, 20)
	ckpt.Save(d, 4, 4, 2, "abc") // behind where checkpoints of this conf are
	ckpt.Save(d, 0, 4, 1, "abc")
	d.Write(2, strings.Repeat("\x00", api.BlockSize)) // a head
	d.Sync()
	want(t, "Make", store.Make(d, small), api.OK)
	opened(t, d, small, 1, "")
}

// P8.2: what Load tells, then what the log of its number tells; the other log is not looked at.
func TestOpen(t *testing.T) {
	d := junked(t, 10)
	wantNone(t, "junk", d, small, api.ErrNone)
	d.Fuse(0)
	wantNone(t, "down", d, small, api.ErrDown)
	for _, c := range []api.StoreConf{small, {Ckpt: 3, Log: 1}, {Ckpt: 2, Log: 9}} {
		room := strings.Repeat("r", ckpt.Room(2*c.Ckpt))
		for _, gen := range []uint64{1, 2, 3, 40, 41, api.MaxGen - 1, api.MaxGen} {
			for _, text := range []string{"", "abc", room} {
				for _, records := range [][]string{nil, {"a"}, {"", "b", ""}, {strings.Repeat("f", c.Log*logRoom-frameSize)}} {
					d := madeOf(t, c, gen, text, records...)
					was := standing(d)
					opened(t, d, c, gen, text, records...)
					wantSame(t, "Open", standing(d), was)
					d.Fuse(0)
					wantNone(t, "down", d, c, api.ErrDown)
				}
			}
		}
	}
}

// P8.2: of two checkpoints the log is that of the one that is loaded.
func TestOpenOfTwo(t *testing.T) {
	for _, gen := range []uint64{1, 2, 7, 8} {
		d := madeOf(t, small, gen, "old", "x", "y")
		ckpt.Save(d, 0, 4, gen+1, "new")
		wantNone(t, "a log of junk", d, small, api.ErrLog)
		wal.Clear(d, 4+2*int((gen+1)%2), 2)
		opened(t, d, small, gen+1, "new")
		d.Write(2*int((gen+1)%2), strings.Repeat("\x00", api.BlockSize)) // the new one's head
		d.Sync()
		opened(t, d, small, gen, "old", "x", "y")
	}
}

// P8.2: Open mends a log as wal.Open does, cut behind each number of calls.
func TestOpenMends(t *testing.T) {
	for _, gen := range []uint64{1, 2} {
		from := 4 + 3*int(gen%2)
		c := api.StoreConf{Ckpt: 2, Log: 3}
		d := madeOf(t, c, gen, "abc", "a", strings.Repeat("b", 300))
		// The end of its second record is lost.
		d.Write(from+1, strings.Repeat("\x00", api.BlockSize))
		d.Sync()
		for k := range 6 {
			got, like := copyOf(t, d), copyOf(t, d)
			got.Fuse(k)
			like.Fuse(k)
			_, _, e := wal.Open(like, from, 3)
			if e == api.OK {
				opened(t, got, c, gen, "abc", "a")
			} else {
				wantNone(t, "cut", got, c, e)
			}
			if k == 0 && e == api.OK || k == 5 && e != api.OK {
				t.Fatalf("cut behind %d calls: %v", k, e)
			}
			wantSame(t, "Open", standing(got), standing(like))
		}
	}
}

// P8.3: a record is loose till Sync, which makes all sure that is loose.
func TestAppendAndSync(t *testing.T) {
	d := made(t, small)
	s := opened(t, d, small, 1, "")
	was := d.Sure()
	want(t, "Append", s.Append("ab"), api.OK)
	wantHas(t, "appended", s, 1, roomBehind(small, "ab"))
	if !slices.Equal(d.Loose(), []int{6}) || d.Sure() != was {
		t.Errorf("Loose = %v; is anything sure: %v", d.Loose(), d.Sure() != was)
	}
	want(t, "Sync", s.Sync(), api.OK)
	want(t, "Sync of none", s.Sync(), api.OK)
	want(t, "Append", s.Append(""), api.OK)
	want(t, "Append", s.Append(strings.Repeat("c", 300)), api.OK)
	if !slices.Equal(d.Loose(), []int{6, 6, 7}) {
		t.Errorf("Loose = %v", d.Loose())
	}
	opened(t, d, small, 1, "", "ab", "", strings.Repeat("c", 300))
	d.Crash(nil)
	opened(t, d, small, 1, "", "ab")
}

// P8.3: wal.Append's errors; they change nothing, and the store goes on.
func TestAppendFull(t *testing.T) {
	c := api.StoreConf{Ckpt: 2, Log: 3}
	for _, size := range []int{0, 1, 100, 3*logRoom - 2*frameSize - 1} {
		d := made(t, c)
		s := opened(t, d, c, 1, "")
		first := strings.Repeat("a", size)
		want(t, "Append", s.Append(first), api.OK)
		rest := roomBehind(c, first) - frameSize
		was := standing(d)
		want(t, "Append of too much", s.Append(strings.Repeat("b", rest+1)), api.ErrFull)
		want(t, "Append of too much", s.Append(strings.Repeat("b", api.MaxFrame)), api.ErrFull)
		want(t, "Append of more than a frame has", s.Append(strings.Repeat("b", api.MaxFrame+1)), api.ErrLong)
		wantSame(t, "refused", standing(d), was)
		wantHas(t, "refused", s, 1, rest+frameSize)
		last := strings.Repeat("b", rest)
		want(t, "Append of all", s.Append(last), api.OK)
		wantHas(t, "full", s, 1, 0)
		want(t, "Append to full", s.Append(""), api.ErrFull)
		opened(t, d, c, 1, "", first, last)
		want(t, "Trim of full", s.Trim(""), api.OK)
		want(t, "Append", s.Append(first), api.OK)
		opened(t, d, c, 2, "", first)
	}
}

// P8.3: the log of the next number is cleared, it is saved, its log is opened; cut behind each number of calls.
func TestTrimStepByStep(t *testing.T) {
	c := api.StoreConf{Ckpt: 4, Log: 3}
	for _, gen := range []uint64{1, 2, 3, 500, api.MaxGen - 1} {
		for _, text := range []string{"", "new", strings.Repeat("t", api.BlockSize), strings.Repeat("t", 3*api.BlockSize)} {
			blocks := (len(text) + api.BlockSize - 1) / api.BlockSize
			calls := c.Log + 1 + 5 + blocks
			for k := range calls + 2 {
				d := madeOf(t, c, gen, "old", "x", "y")
				like := copyOf(t, d)
				s := opened(t, d, c, gen, "old", "x", "y")
				d.Fuse(k)
				like.Fuse(k)
				from := 8 + 3*int((gen+1)%2)
				e := s.Trim(text)
				want(t, "Trim", e, twin(
					func() api.Errno { return wal.Clear(like, from, 3) },
					func() api.Errno { return ckpt.Save(like, 0, 8, gen+1, text) },
					func() api.Errno { _, _, e := wal.Open(like, from, 3); return e },
				))
				if (e == api.OK) != (k > calls) { // behind the last one the log is read, which is not counted
					t.Errorf("Trim of %d calls, cut behind %d: %v", calls, k, e)
				}
				wantSame(t, "Trim", standing(d), standing(like))
				if e == api.OK {
					wantHas(t, "Trim", s, gen+1, roomBehind(c))
				} else {
					wantHas(t, "Trim that failed", s, gen, roomBehind(c, "x", "y"))
				}
			}
		}
	}
}

// P8.3: which texts may be, at which numbers; what is refused changes nothing, and the store goes on.
func TestTrimErrors(t *testing.T) {
	for _, c := range []api.StoreConf{small, {Ckpt: 6, Log: 1}} {
		room := ckpt.Room(2 * c.Ckpt)
		most, more := strings.Repeat("t", room), strings.Repeat("t", room+1)
		for _, gen := range []uint64{1, 2, api.MaxGen - 1, api.MaxGen} {
			d := madeOf(t, c, gen, "old", "x")
			s := opened(t, d, c, gen, "old", "x")
			want(t, "Append", s.Append("y"), api.OK)
			was := standing(d)
			if gen == api.MaxGen {
				for _, text := range []string{"", most, more} {
					want(t, "Trim of the last one", s.Trim(text), api.ErrArg)
				}
			} else {
				want(t, "Trim of too much", s.Trim(more), api.ErrLong)
			}
			wantSame(t, "refused", standing(d), was)
			wantHas(t, "refused", s, gen, roomBehind(c, "x", "y"))
			want(t, "Append", s.Append("z"), api.OK)
			want(t, "Sync", s.Sync(), api.OK)
			if gen < api.MaxGen {
				want(t, "Trim", s.Trim(most), api.OK)
				opened(t, d, c, gen+1, most)
			} else {
				opened(t, d, c, gen, "old", "x", "y", "z")
			}
		}
	}
}

// P8.3: one Trim behind the other; each log takes turns, and none tells what another one had.
func TestTrimOften(t *testing.T) {
	d := made(t, small)
	s := opened(t, d, small, 1, "")
	for gen := uint64(1); gen < 20; gen++ {
		text := strings.Repeat("t", int(gen)*13%257)
		want(t, "Append", s.Append(text[:len(text)/2]), api.OK)
		want(t, "Append", s.Append("last"), api.OK)
		want(t, "Trim", s.Trim(text), api.OK)
		wantHas(t, "Trim", s, gen+1, roomBehind(small))
		opened(t, d, small, gen+1, text)
		want(t, "Append", s.Append("kept"), api.OK)
		want(t, "Sync", s.Sync(), api.OK)
		d.Crash(nil)
		s = opened(t, d, small, gen+1, text, "kept")
	}
	if got := blocksOf(d)[8:]; !slices.Equal(got, slices.Repeat([]string{strings.Repeat(junk, api.BlockSize)}, 2)) {
		t.Error("what stands behind the store is not as it was")
	}
}

// P8.3: once an error of the disk was told nothing is done any more, though the disk goes again; what the store has stays.
func TestDown(t *testing.T) {
	for _, gen := range []uint64{1, 2, api.MaxGen} {
		for what, do := range map[string]func(*store.Store) api.Errno{
			"Append": func(s *store.Store) api.Errno { return s.Append("z") },
			"Sync":   (*store.Store).Sync,
			"Trim":   func(s *store.Store) api.Errno { return s.Trim("new") },
		} {
			if gen == api.MaxGen && what == "Trim" {
				continue
			}
			d := madeOf(t, small, gen, "old", "x")
			s := opened(t, d, small, gen, "old", "x")
			want(t, "Append", s.Append("y"), api.OK)
			d.Fuse(0)
			want(t, what, do(s), api.ErrDown)
			was := standing(d)
			for range 2 {
				for _, text := range []string{"", strings.Repeat("a", api.MaxFrame+1)} {
					want(t, "Append behind "+what, s.Append(text), api.ErrState)
					want(t, "Trim behind "+what, s.Trim(text), api.ErrState)
				}
				want(t, "Sync behind "+what, s.Sync(), api.ErrState)
				wantSame(t, "behind "+what, standing(d), was)
				wantHas(t, "behind "+what, s, gen, roomBehind(small, "x", "y"))
				d.Fuse(0) // that the disk stands still is told no more
			}
			d.Crash(nil)
			want(t, "Sync behind a crash", s.Sync(), api.ErrState)
			opened(t, d, small, gen, "old", "x")
		}
	}
}

// P8.3: an error that another call of the disk told is not told by the store.
func TestOthersErrors(t *testing.T) {
	d := made(t, small)
	s := opened(t, d, small, 1, "")
	d.Fuse(0)
	want(t, "Sync of the disk", d.Sync(), api.ErrDown)
	wantNone(t, "down", d, small, api.ErrDown)
	d.Fuse(-1)
	want(t, "Append", s.Append("a"), api.OK)
	want(t, "Sync", s.Sync(), api.OK)
	want(t, "Trim", s.Trim("b"), api.OK)
	opened(t, d, small, 2, "b")
}
