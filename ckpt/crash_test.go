package ckpt_test

import (
	"math/rand"
	"slices"
	"strings"
	"testing"

	"reeve/api"
	"reeve/block"
	"reeve/ckpt"
)

// kept: a checkpoint.
type kept struct {
	gen  uint64
	text string
}

// wantOneOf: one of these is loaded, and which.
func wantOneOf(t *testing.T, what string, d *block.Disk, n int, may ...kept) kept {
	t.Helper()
	gen, text, e := ckpt.Load(d, 0, n)
	if e != api.OK || !slices.Contains(may, kept{gen, text}) {
		t.Fatalf("%s: Load = %d, %d bytes %.20q, %v; want one of those from %d on", what, gen, len(text), text, e, may[0].gen)
	}
	return kept{gen, text}
}

// blocksOf: what is sure, block by block.
func blocksOf(d *block.Disk) []string {
	var l []string
	for sure := d.Sure(); sure != ""; sure = sure[api.BlockSize:] {
		l = append(l, sure[:api.BlockSize])
	}
	return l
}

// picksFor: picks of n writes: each tear of the first one, the others by chance.
func picksFor(r *rand.Rand, n, first int) []int {
	picks := make([]int, n)
	for i := range picks {
		picks[i] = []int{0, api.BlockSize, r.Intn(api.BlockSize + 1)}[r.Intn(3)]
	}
	if n > 0 {
		picks[0] = first
	}
	return picks
}

// P7.4: a checkpoint was saved, with an older one beside it or not; the next is begun, and cut at each call; each tear of what is loose then.
func TestEachCut(t *testing.T) {
	const n = 12
	r := rand.New(rand.NewSource(1))
	long := strings.Repeat("long", 150)
	for _, gen := range []uint64{1, 2, 3, 0xff, 0x100, 0x101, 0x102, 0x103, 0x10001, 0x10102, 0x1020304050607, api.MaxGen - 1} {
		for _, texts := range [][3]string{{"older", "old", "new"}, {long, "", long + "new"}, {"", long + long[1:], ""}, {long, long, long}} {
			older, old, next := kept{gen - 1, texts[0]}, kept{gen, texts[1]}, kept{gen + 1, texts[2]}
			d := junked(t, n)
			if older.gen > 0 {
				want(t, "Save", ckpt.Save(d, 0, n, older.gen, older.text), api.OK)
			}
			want(t, "Save", ckpt.Save(d, 0, n, old.gen, old.text), api.OK)
			wantEachCut(t, r, blocksOf(d), n, old, next)
		}
	}
}

// wantEachCut: the next is begun on these blocks, cut behind each number of calls, and behind it there is a crash.
func wantEachCut(t *testing.T, r *rand.Rand, blocks []string, n int, old, next kept) {
	t.Helper()
	calls := len(callsOf(0, n, next.gen, next.text))
	for k := range calls + 1 {
		for tear := range api.BlockSize + 1 {
			d := diskOf(t, blocks...)
			d.Fuse(k)
			e := ckpt.Save(d, 0, n, next.gen, next.text)
			if (e == api.OK) != (k == calls) {
				t.Fatalf("Save of %d calls, cut behind %d: %v", calls, k, e)
			}
			d.Fuse(-1)
			wantOneOf(t, "cut", d, n, old, next)
			loose := len(d.Loose())
			d.Crash(picksFor(r, loose, tear))
			got := wantOneOf(t, "crashed", d, n, old, next)
			if k == calls && got != next {
				t.Fatalf("saved, and %d is loaded", got.gen)
			}
			if k < calls-1 && got != old { // its head is not written yet
				t.Fatalf("cut behind %d calls of %d, and %d is loaded", k, calls, got.gen)
			}
			if loose == 0 {
				break
			}
		}
	}
}

// P7.4: any saves, cuts, crashes, one behind the other; the number goes on from what is loaded, once that is sure.
func TestAnyCrashes(t *testing.T) {
	seen := map[string]int{}
	for seed := range int64(300) {
		r := rand.New(rand.NewSource(seed))
		n := 4 + 2*r.Intn(5)
		d := junked(t, n)
		last := kept{uint64(1 + r.Intn(700)), odd(r, r.Intn(ckpt.Room(n)+1))}
		want(t, "Save", ckpt.Save(d, 0, n, last.gen, last.text), api.OK)
		for range 40 {
			next := kept{last.gen + 1, odd(r, []int{0, r.Intn(300), r.Intn(ckpt.Room(n) + 1), ckpt.Room(n)}[r.Intn(4)]%(ckpt.Room(n)+1))}
			if r.Intn(3) > 0 {
				d.Fuse(r.Intn(len(callsOf(0, n, next.gen, next.text)) + 1))
			}
			e := ckpt.Save(d, 0, n, next.gen, next.text)
			if r.Intn(3) == 0 {
				d.Fuse(-1)
				wantOneOf(t, "cut", d, n, last, next)
				d.Sync()
			} else {
				d.Crash(picksFor(r, len(d.Loose()), r.Intn(api.BlockSize+1)))
			}
			got := wantOneOf(t, "any", d, n, last, next)
			switch {
			case e == api.OK && got != next:
				t.Fatalf("seed %d: saved, and %d is loaded", seed, got.gen)
			case e == api.OK:
				seen["saved"]++
			case got == next:
				seen["begun, and there"]++
			default:
				seen["begun, and not there"]++
			}
			last = got
		}
	}
	for _, what := range []string{"saved", "begun, and there", "begun, and not there"} {
		if seen[what] < 100 {
			t.Errorf("too few of a kind: %v", seen)
		}
	}
}
