package store_test

import (
	"math/rand"
	"slices"
	"strings"
	"testing"

	"reeve/api"
	"reeve/block"
	"reeve/store"
)

// pickSome: picks of n writes by chance.
func pickSome(r *rand.Rand, n int) []int {
	picks := make([]int, n)
	for i := range picks {
		picks[i] = []int{0, api.BlockSize, r.Intn(api.BlockSize + 1)}[r.Intn(3)]
	}
	return picks
}

func wantKept(t *testing.T, what string, d *block.Disk, c api.StoreConf, is func(k api.Kept) bool) api.Kept {
	t.Helper()
	_, k, e := store.Open(d, c)
	if e != api.OK || !is(k) {
		t.Fatalf("%s: Open = %d, %.40q, %.80q, %v", what, k.Gen, k.Ckpt, k.Records, e)
	}
	return k
}

// isBeginning: whether records are a beginning of all, with those that were sure.
func isBeginning(records, all []string, sure int) bool {
	return len(records) >= sure && len(records) <= len(all) && slices.Equal(records, all[:len(records)])
}

// P8.4: a checkpoint, records that are sure, others that are loose; the next one is begun, and cut at each call; some crashes of what is loose then.
func TestEachCut(t *testing.T) {
	c := api.StoreConf{Ckpt: 3, Log: 3}
	r := rand.New(rand.NewSource(1))
	long := strings.Repeat("long", 70)
	for _, gen := range []uint64{1, 2, 255, 256, api.MaxGen - 1} {
		for _, text := range []string{"", "new", long} {
			calls := c.Log + 1 + 5 + (len(text)+api.BlockSize-1)/api.BlockSize
			for k := range calls + 2 {
				for range 40 {
					d := madeOf(t, c, gen, "old", "x", long)
					s := opened(t, d, c, gen, "old", "x", long)
					want(t, "Append", s.Append("y"), api.OK)
					want(t, "Append", s.Append(long), api.OK)
					all := []string{"x", long, "y", long}
					sure := 2
					if k > c.Log {
						sure = 4 // the first Sync was theirs, too
					}
					d.Fuse(k)
					e := s.Trim(text)
					d.Crash(pickSome(r, len(d.Loose())))
					got := wantKept(t, "cut", d, c, func(k api.Kept) bool {
						if k.Gen == gen {
							return k.Ckpt == "old" && isBeginning(k.Records, all, sure)
						}
						return k.Gen == gen+1 && k.Ckpt == text && len(k.Records) == 0
					})
					if e == api.OK && got.Gen == gen || k < calls-1 && got.Gen > gen {
						t.Fatalf("cut behind %d calls of %d, told %v, and %d is there", k, calls, e, got.Gen)
					}
				}
			}
		}
	}
}

// P8.4: Make is cut at each call: behind any crash there is no store, or an empty one.
func TestEachCutOfMake(t *testing.T) {
	r := rand.New(rand.NewSource(2))
	for k := range small.Log + 1 + 5 + 1 {
		for range 100 {
			d := junked(t, 8)
			d.Fuse(k)
			e := store.Make(d, small)
			d.Crash(pickSome(r, len(d.Loose())))
			if _, _, f := store.Open(d, small); e == api.OK || f != api.ErrNone {
				opened(t, d, small, 1, "")
				continue
			}
			want(t, "Make anew", store.Make(d, small), api.OK)
			opened(t, d, small, 1, "")
		}
	}
}

// world: a disk on which a store is used, and what is known of it.
type world struct {
	d    *block.Disk
	c    api.StoreConf
	s    *store.Store
	gen  uint64
	text string
	all  []string  // what was appended, and not lost since
	sure int       // how many of these were there at the last Sync
	next *api.Kept // the checkpoint that was being saved when the disk stood still
	seen map[string]int
}

func (w *world) append(r *rand.Rand) {
	b := make([]byte, []int{0, 1, r.Intn(20), r.Intn(300), r.Intn(700)}[r.Intn(5)])
	r.Read(b)
	e := w.s.Append(string(b))
	if e == api.OK {
		w.all = append(w.all, string(b))
	}
	w.count("append", e)
}

func (w *world) sync() {
	e := w.s.Sync()
	if e == api.OK {
		w.sure = len(w.all)
	}
	w.count("sync", e)
}

func (w *world) trim(r *rand.Rand) {
	b := make([]byte, r.Intn((w.c.Ckpt-1)*api.BlockSize+1))
	r.Read(b)
	e := w.s.Trim(string(b))
	switch e {
	case api.OK:
		w.gen, w.text, w.all, w.sure = w.gen+1, string(b), nil, 0
	case api.ErrDown:
		w.next = &api.Kept{Gen: w.gen + 1, Ckpt: string(b)}
	}
	w.count("trim", e)
}

// crash loses what it may, cuts Open some times, and opens the store again.
func (w *world) crash(t *testing.T, r *rand.Rand) {
	t.Helper()
	for range r.Intn(4) {
		w.d.Crash(pickSome(r, len(w.d.Loose())))
		w.d.Fuse(r.Intn(6))
		if _, _, e := store.Open(w.d, w.c); e == api.ErrDown {
			w.seen["cut Open"]++
		}
	}
	w.d.Crash(pickSome(r, len(w.d.Loose())))
	s, k, e := store.Open(w.d, w.c)
	switch {
	case e == api.OK && k.Gen == w.gen && k.Ckpt == w.text && isBeginning(k.Records, w.all, w.sure):
		w.seen["as it was"]++
	case e == api.OK && w.next != nil && k.Gen == w.next.Gen && k.Ckpt == w.next.Ckpt && len(k.Records) == 0:
		w.seen["the one that was being saved"]++
	default:
		t.Fatalf("Open = %d, %d bytes, %d records, %v; %d, %d bytes, %d records, of which %d were sure", k.Gen, len(k.Ckpt), len(k.Records), e, w.gen, len(w.text), len(w.all), w.sure)
	}
	w.s, w.gen, w.text, w.all, w.sure, w.next = s, k.Gen, k.Ckpt, k.Records, len(k.Records), nil
	wantHas(t, "opened", s, k.Gen, roomBehind(w.c, k.Records...))
}

func (w *world) count(what string, e api.Errno) {
	w.seen[what+" "+e.Error()]++
}

// P8.4: any appends, Syncs, Trims, crashes, one behind the other.
func TestAnyCrashes(t *testing.T) {
	seen := map[string]int{}
	for seed := range int64(200) {
		r := rand.New(rand.NewSource(seed))
		w := &world{c: api.StoreConf{Ckpt: 2 + r.Intn(4), Log: 1 + r.Intn(8)}, gen: 1, seen: seen}
		w.d = made(t, w.c)
		w.s = opened(t, w.d, w.c, 1, "")
		for range 120 {
			if r.Intn(8) == 0 {
				w.d.Fuse(r.Intn(20))
			}
			switch k := r.Intn(12); {
			case k < 6:
				w.append(r)
			case k < 8:
				w.sync()
			case k < 10:
				w.trim(r)
			default:
				w.crash(t, r)
			}
			if t.Failed() {
				t.Fatalf("seed %d", seed)
			}
		}
	}
	for _, what := range []string{"append error 0", "append error 3", "append error 6", "append error 50", "sync error 0", "sync error 3", "sync error 50", "trim error 0", "trim error 3", "trim error 50", "cut Open", "as it was", "the one that was being saved"} {
		if seen[what] < 50 {
			t.Errorf("too few of a kind, %s: %v", what, seen)
		}
	}
}
