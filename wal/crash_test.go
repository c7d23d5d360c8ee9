package wal_test

import (
	"math/rand"
	"slices"
	"strings"
	"testing"

	"reeve/api"
	"reeve/block"
	"reeve/wal"
)

// tears: how much of a write may stay: nothing, some, all but the count, all.
var tears = []int{0, 1, 12, 100, room - 1, room, api.BlockSize}

// eachCrash goes through the picks of n writes, all of them, if there are few, else some by chance.
func eachCrash(r *rand.Rand, n int, do func(picks []int)) {
	all := 1
	for range n {
		all *= len(tears)
		if all > 400 {
			break
		}
	}
	for at := range min(all, 400) {
		picks := make([]int, n)
		for i, rest := 0, at; i < n; i++ {
			picks[i], rest = tears[rest%len(tears)], rest/len(tears)
			if all > 400 {
				picks[i] = tears[r.Intn(len(tears))]
			}
		}
		do(picks)
	}
}

// copyOf: a disk with the same that is sure, and nothing loose.
func copyOf(t *testing.T, d *block.Disk) *block.Disk {
	t.Helper()
	c := newDisk(t, d.Size())
	sure := d.Sure()
	for b := range d.Size() {
		c.Write(b, sure[b*api.BlockSize:(b+1)*api.BlockSize])
	}
	c.Sync()
	return c
}

// wantBeginning: what Open finds is a beginning of all, with those that were sure.
func wantBeginning(t *testing.T, d *block.Disk, n int, all []string, sure int) []string {
	t.Helper()
	_, r, e := wal.Open(d, 0, n)
	if e != api.OK || len(r) < sure || len(r) > len(all) || !slices.Equal(r, all[:len(r)]) {
		t.Fatalf("Open = %.80q, %v; of %.80q, of which %d were sure", r, e, all, sure)
	}
	return r
}

// P6.4: some records are sure, others loose; each crash of these, and each crash in the midst of the Open behind it.
func TestEachCrash(t *testing.T) {
	const n = 5
	r := rand.New(rand.NewSource(1))
	long := strings.Repeat("long", 80)
	for _, c := range []struct{ sure, loose []string }{
		{nil, []string{"a"}},
		{[]string{"a"}, []string{"b", "c"}},
		{[]string{"a"}, []string{long}},
		{[]string{"a"}, []string{"b", long}},
		{[]string{strings.Repeat("f", room-8)}, []string{"b", long}},
		{[]string{strings.Repeat("f", room-11)}, []string{"", ""}},
		{[]string{long, "x"}, []string{long + long}},
		{nil, []string{long + long + long}},
	} {
		all := slices.Concat(c.sure, c.loose)
		written := func() *block.Disk {
			d := cleared(t, n)
			l := opened(t, d, 0, n)
			for i, record := range all {
				if i == len(c.sure) {
					d.Sync()
				}
				want(t, "Append", l.Append(record), api.OK)
			}
			return d
		}
		eachCrash(r, len(written().Loose()), func(picks []int) {
			d := written()
			d.Crash(picks)
			crashed := copyOf(t, d)
			found := wantBeginning(t, d, n, all, len(c.sure))
			wantOpenSafe(t, r, crashed, n, found)
		})
	}
}

// wantOpenSafe: whenever Open is cut, and whatever a crash leaves of it, Open finds the same behind it.
func wantOpenSafe(t *testing.T, r *rand.Rand, crashed *block.Disk, n int, found []string) {
	t.Helper()
	steps, _, _ := mended(stands(crashed, 0, n))
	for k := range calls(steps) {
		for range 6 {
			d := copyOf(t, crashed)
			d.Fuse(k)
			wantNone(t, "down", d, 0, n, api.ErrDown)
			var picks []int
			for range d.Loose() {
				picks = append(picks, tears[r.Intn(len(tears))])
			}
			d.Crash(picks)
			wantBeginning(t, d, n, found, len(found))
			wantStands(t, d, 0, laid(framed(found...), n))
		}
	}
}

// world: a disk on which a log is used, and what is known of it.
type world struct {
	d    *block.Disk
	l    *wal.Log
	n    int
	all  []string // what was appended, and not lost since
	sure int      // how many of these were there at the last Sync
	seen map[string]int
}

// append appends one, by chance with a fuse that may burn in its midst.
func (w *world) append(r *rand.Rand) {
	b := make([]byte, []int{0, 1, r.Intn(20), r.Intn(300), r.Intn(700), room - 8}[r.Intn(6)])
	r.Read(b)
	if r.Intn(6) == 0 {
		w.d.Fuse(r.Intn(4))
	}
	switch w.l.Append(string(b)) {
	case api.OK:
		w.all = append(w.all, string(b))
		w.seen["appended"]++
	case api.ErrFull:
		w.seen["full"]++
	case api.ErrDown:
		w.seen["down"]++
	case api.ErrState:
		w.seen["broken"]++
	}
}

func (w *world) sync() {
	if w.d.Sync() == api.OK {
		w.sure = len(w.all)
	}
}

// crash loses what it may, cuts Open some times, by a crash or not, and opens the log again.
func (w *world) crash(t *testing.T, r *rand.Rand) {
	t.Helper()
	for range r.Intn(4) {
		w.lose(r)
		w.d.Fuse(r.Intn(6))
		if _, _, e := wal.Open(w.d, 0, w.n); e == api.ErrDown {
			w.seen["cut Open"]++
		}
	}
	w.lose(r)
	var e api.Errno
	var found []string
	loose := len(w.d.Loose())
	w.l, found, e = wal.Open(w.d, 0, w.n)
	if e != api.OK || len(found) < w.sure || len(found) > len(w.all) || !slices.Equal(found, w.all[:len(found)]) {
		t.Fatalf("Open = %d records, %v; of %d, of which %d were sure", len(found), e, len(w.all), w.sure)
	}
	if len(found) < len(w.all) {
		w.seen["lost"]++
	}
	w.all = found
	if loose == 0 || len(w.d.Loose()) == 0 {
		w.sure = len(found)
	}
	wantSize(t, w.l, len(framed(found...)), w.n*room-len(framed(found...)))
	wantStands(t, w.d, 0, laid(framed(found...), w.n))
}

// lose is a crash, or, by chance, only a disk that goes again.
func (w *world) lose(r *rand.Rand) {
	if r.Intn(4) == 0 {
		w.d.Fuse(-1)
		return
	}
	picks := make([]int, r.Intn(len(w.d.Loose())+1))
	for i := range picks {
		picks[i] = []int{0, api.BlockSize, r.Intn(api.BlockSize + 1)}[r.Intn(3)]
	}
	w.d.Crash(picks)
}

// P6.4: any appends, Syncs, crashes, one behind the other.
func TestAnyCrashes(t *testing.T) {
	seen := map[string]int{}
	for seed := range int64(150) {
		r := rand.New(rand.NewSource(seed))
		w := &world{n: 1 + r.Intn(12), seen: seen}
		w.d = cleared(t, w.n)
		w.l = opened(t, w.d, 0, w.n)
		for range 120 {
			switch k := r.Intn(10); {
			case k < 6:
				w.append(r)
			case k < 8:
				w.sync()
			default:
				w.crash(t, r)
			}
			if t.Failed() {
				t.Fatalf("seed %d", seed)
			}
		}
	}
	for _, what := range []string{"appended", "full", "down", "broken", "cut Open", "lost"} {
		if seen[what] < 50 {
			t.Errorf("too few of a kind: %v", seen)
		}
	}
}
