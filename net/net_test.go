package net_test

import (
	"math"
	"slices"
	"strings"
	"testing"

	"reeve/api"
	"reeve/net"
)

// notAddresses: numbers that are none, near to those that are and far from them.
var notAddresses = []int{-1, -2, -255, -256, 256, 257, 1 << 16, 1 << 32, math.MinInt, math.MaxInt}

func wantSend(t *testing.T, n *net.Net, from, to int, text string, id uint64) {
	t.Helper()
	if got, e := n.Send(from, to, text); got != id || e != api.OK {
		t.Fatalf("Send(%d, %d) of %d bytes = %d, %v, want %d", from, to, len(text), got, e, id)
	}
}

func wantDouble(t *testing.T, n *net.Net, id, is uint64) {
	t.Helper()
	if got, e := n.Double(id); got != is || e != api.OK {
		t.Fatalf("Double(%d) = %d, %v, want %d", id, got, e, is)
	}
}

func wantTake(t *testing.T, n *net.Net, id uint64, l api.Letter, e api.Errno) {
	t.Helper()
	if got, f := n.Take(id); got != l || f != e {
		t.Fatalf("Take(%d) = %v, %v, want %v, %v", id, got, f, l, e)
	}
}

// want: what a call without other answers told.
func want(t *testing.T, what string, got, e api.Errno) {
	t.Helper()
	if got != e {
		t.Fatalf("%s = %v, want %v", what, got, e)
	}
}

// wantList: all letters, and that there are so many.
func wantList(t *testing.T, n *net.Net, letters ...api.Letter) {
	t.Helper()
	if got := n.List(); !slices.Equal(got, letters) {
		t.Fatalf("List = %v, want %v", got, letters)
	}
	if got := n.Len(); got != len(letters) {
		t.Fatalf("Len = %d, want %d", got, len(letters))
	}
}

func wantReady(t *testing.T, n *net.Net, ids ...uint64) {
	t.Helper()
	if got := n.Ready(); !slices.Equal(got, ids) {
		t.Fatalf("Ready = %v, want %v", got, ids)
	}
}

// wantParted: whether two are parted, whichever is named first.
func wantParted(t *testing.T, n *net.Net, a, b int, is bool) {
	t.Helper()
	if n.Parted(a, b) != is || n.Parted(b, a) != is {
		t.Fatalf("Parted(%d, %d), and the other way, = %v, %v", a, b, n.Parted(a, b), n.Parted(b, a))
	}
}

// full: a net that has as many letters as there may be, from 1 on.
func full(t *testing.T) *net.Net {
	t.Helper()
	n := net.New()
	for i := range api.MaxLetters {
		wantSend(t, n, i%3, i%5, "", uint64(i+1))
	}
	return n
}

// The chapter's examples, one behind the other.
func TestExamples(t *testing.T) {
	n := net.New()
	wantSend(t, n, 0, 1, "a", 1)
	wantDouble(t, n, 1, 2)
	want(t, "Drop(1)", n.Drop(1), api.OK)
	wantTake(t, n, 2, api.Letter{ID: 2, From: 0, To: 1, Text: "a"}, api.OK)
	want(t, "Part(0, 1)", n.Part(0, 1), api.OK)
	wantSend(t, n, 0, 1, "b", 3)
	wantTake(t, n, 3, api.Letter{}, api.ErrCut)
	want(t, "Join(1, 0)", n.Join(1, 0), api.OK)
	wantTake(t, n, 3, api.Letter{ID: 3, From: 0, To: 1, Text: "b"}, api.OK)
	wantList(t, n)
}

// P10.1: a new net has no letters, and nobody is parted; what becomes of it changes nothing of others (R6).
func TestNew(t *testing.T) {
	n, other := net.New(), net.New()
	wantList(t, n)
	wantReady(t, n)
	for a := range api.MaxAddr {
		for b := range api.MaxAddr {
			wantParted(t, n, a, b, false)
		}
	}
	wantSend(t, n, 0, 1, "a", 1)
	want(t, "Part", n.Part(0, 1), api.OK)
	wantList(t, other)
	wantParted(t, other, 0, 1, false)
	wantSend(t, other, 1, 0, "b", 1)
	wantReady(t, other, 1)
}

// P10.1: from where, and where to, letters may go, and to whom they come; also to who sent them.
func TestAddresses(t *testing.T) {
	n := net.New()
	var letters []api.Letter
	for _, from := range []int{0, 1, 100, 254, 255} {
		for _, to := range []int{0, 1, 100, 254, 255} {
			id := uint64(len(letters) + 1)
			wantSend(t, n, from, to, "x", id)
			letters = append(letters, api.Letter{ID: id, From: from, To: to, Text: "x"})
		}
	}
	for _, is := range []int{0, 7, 255} {
		for _, not := range notAddresses {
			for _, ends := range [][2]int{{is, not}, {not, is}, {not, not}} {
				if id, e := n.Send(ends[0], ends[1], "x"); id != 0 || e != api.ErrArg {
					t.Errorf("Send(%d, %d) = %d, %v", ends[0], ends[1], id, e)
				}
			}
		}
	}
	wantList(t, n, letters...)
}

// P10.1: how long a text may be; any bytes may be in it.
func TestTexts(t *testing.T) {
	n := net.New()
	longest := strings.Repeat("z", api.MaxText)
	var letters []api.Letter
	for i, text := range []string{"", "\x00", "\xff\xfe", "é", longest[1:], longest} {
		wantSend(t, n, 3, 4, text, uint64(i+1))
		letters = append(letters, api.Letter{ID: uint64(i + 1), From: 3, To: 4, Text: text})
	}
	for _, text := range []string{longest + "z", longest + longest} {
		if id, e := n.Send(3, 4, text); id != 0 || e != api.ErrLong {
			t.Errorf("Send of %d bytes = %d, %v", len(text), id, e)
		}
	}
	wantList(t, n, letters...)
	wantTake(t, n, 6, letters[5], api.OK)
}

// P10.1, P10.2: of several errors the first is told.
func TestFirstError(t *testing.T) {
	n, long := full(t), strings.Repeat("z", api.MaxText+1)
	if _, e := n.Send(-1, 0, long); e != api.ErrArg {
		t.Errorf("neither address nor text nor room: %v", e)
	}
	if _, e := n.Send(0, 256, ""); e != api.ErrArg {
		t.Errorf("neither address nor room: %v", e)
	}
	if _, e := n.Send(0, 0, long); e != api.ErrLong {
		t.Errorf("neither text nor room: %v", e)
	}
	if _, e := n.Double(api.MaxLetters + 1); e != api.ErrNone {
		t.Errorf("neither letter nor room: %v", e)
	}
}

// P10.1, P10.2: as many letters as there may be, and not one more; what is refused takes no number.
func TestFull(t *testing.T) {
	n := full(t)
	before := n.List()
	for range 3 {
		if id, e := n.Send(0, 1, "a"); id != 0 || e != api.ErrFull {
			t.Fatalf("Send = %d, %v", id, e)
		}
		if id, e := n.Double(9); id != 0 || e != api.ErrFull {
			t.Fatalf("Double = %d, %v", id, e)
		}
	}
	wantList(t, n, before...)
	want(t, "Drop", n.Drop(1), api.OK)
	wantDouble(t, n, 2, api.MaxLetters+1)
	if _, e := n.Double(2); e != api.ErrFull {
		t.Errorf("Double = %v", e)
	}
	wantTake(t, n, 2, before[1], api.OK)
	wantSend(t, n, 8, 9, "b", api.MaxLetters+2)
	if _, e := n.Send(8, 9, "b"); e != api.ErrFull {
		t.Errorf("Send = %v", e)
	}
	double := before[1]
	double.ID = api.MaxLetters + 1
	wantList(t, n, append(before[2:], double, api.Letter{ID: api.MaxLetters + 2, From: 8, To: 9, Text: "b"})...)
}

// P10.2: there is no letter of a number that was not given yet, nor of one whose letter is gone; no number is given again.
func TestNone(t *testing.T) {
	n := net.New()
	wantSend(t, n, 0, 1, "a", 1)
	wantSend(t, n, 0, 1, "b", 2)
	wantSend(t, n, 0, 1, "c", 3)
	want(t, "Drop(3)", n.Drop(3), api.OK)
	wantTake(t, n, 1, api.Letter{ID: 1, To: 1, Text: "a"}, api.OK)
	for _, id := range []uint64{0, 1, 3, 4, math.MaxInt64, math.MaxUint64} {
		wantTake(t, n, id, api.Letter{}, api.ErrNone)
		want(t, "Drop", n.Drop(id), api.ErrNone)
		if got, e := n.Double(id); got != 0 || e != api.ErrNone {
			t.Errorf("Double(%d) = %d, %v", id, got, e)
		}
		wantList(t, n, api.Letter{ID: 2, To: 1, Text: "b"})
	}
	want(t, "Drop(2)", n.Drop(2), api.OK)
	wantList(t, n)
	wantSend(t, n, 0, 1, "d", 4)
}

// P10.2: a double is as its letter was, its age too, and is a letter of its own, then.
func TestDouble(t *testing.T) {
	n := net.New()
	wantSend(t, n, 5, 6, "a", 1)
	n.Age()
	n.Age()
	wantDouble(t, n, 1, 2)
	n.Age()
	wantDouble(t, n, 2, 3)
	wantDouble(t, n, 1, 4)
	l := func(id uint64) api.Letter { return api.Letter{ID: id, From: 5, To: 6, Text: "a", Age: 3} }
	wantList(t, n, l(1), l(2), l(3), l(4))
	wantTake(t, n, 1, l(1), api.OK)
	wantTake(t, n, 3, l(3), api.OK)
	wantTake(t, n, 3, api.Letter{}, api.ErrNone)
	wantList(t, n, l(2), l(4))
	want(t, "Part", n.Part(6, 5), api.OK)
	wantDouble(t, n, 2, 5) // what is between two who are parted is doubled and lost, too
	want(t, "Drop", n.Drop(4), api.OK)
	wantTake(t, n, 5, api.Letter{}, api.ErrCut)
	wantList(t, n, l(2), l(5))
}

// P10.2, P10.3: between two who are parted nothing comes, either way, till they are joined; all else comes.
func TestCut(t *testing.T) {
	n := net.New()
	want(t, "Part", n.Part(7, 3), api.OK)
	ends := [][2]int{{3, 7}, {7, 3}, {3, 3}, {7, 7}, {3, 8}, {8, 7}, {7, 8}}
	for i, e := range ends {
		wantSend(t, n, e[0], e[1], "a", uint64(i+1))
	}
	wantReady(t, n, 3, 4, 5, 6, 7)
	for range 2 { // what did not come is there still
		wantTake(t, n, 1, api.Letter{}, api.ErrCut)
		wantTake(t, n, 2, api.Letter{}, api.ErrCut)
	}
	for id := uint64(3); id <= 7; id++ {
		wantTake(t, n, id, api.Letter{ID: id, From: ends[id-1][0], To: ends[id-1][1], Text: "a"}, api.OK)
	}
	wantReady(t, n)
	if n.Len() != 2 {
		t.Errorf("Len = %d", n.Len())
	}
	want(t, "Join", n.Join(3, 7), api.OK)
	wantReady(t, n, 1, 2)
	wantTake(t, n, 2, api.Letter{ID: 2, From: 7, To: 3, Text: "a"}, api.OK)
	want(t, "Part", n.Part(3, 7), api.OK) // also what was sent before they were parted waits
	wantTake(t, n, 1, api.Letter{}, api.ErrCut)
	wantReady(t, n)
}

// P10.3: who may be parted and joined; nobody is parted from themselves, nor from who is none.
func TestPartErrors(t *testing.T) {
	n := net.New()
	want(t, "Part", n.Part(0, 255), api.OK)
	for _, is := range []int{0, 1, 255} {
		pairs := [][2]int{{is, is}}
		for _, not := range notAddresses {
			pairs = append(pairs, [2]int{is, not}, [2]int{not, is}, [2]int{not, not}, [2]int{not, not + 1})
		}
		for _, p := range pairs {
			want(t, "Part", n.Part(p[0], p[1]), api.ErrArg)
			want(t, "Join", n.Join(p[0], p[1]), api.ErrArg)
			wantParted(t, n, p[0], p[1], false)
		}
	}
	wantParted(t, n, 0, 255, true)
}

// P10.3: each two are parted and joined by themselves, once or again, whichever is named first.
func TestPartAndJoin(t *testing.T) {
	n := net.New()
	for a := range api.MaxAddr {
		for b := range a {
			want(t, "Join", n.Join(b, a), api.OK) // of two who are not parted
			want(t, "Part", n.Part(a, b), api.OK)
			want(t, "Part", n.Part(b, a), api.OK)
		}
	}
	for a := range api.MaxAddr {
		for b := range api.MaxAddr {
			wantParted(t, n, a, b, a != b)
		}
	}
	joined := func(a, b int) bool { return (a+b)%3 == 0 }
	for a := range api.MaxAddr {
		for b := range a {
			if joined(a, b) {
				want(t, "Join", n.Join(b, a), api.OK) // once is enough, though they were parted twice
			}
		}
	}
	for a := range api.MaxAddr {
		for b := range a {
			wantParted(t, n, a, b, !joined(a, b))
		}
	}
}

// P10.3: the oldest is ready first, of those of one age the one with the lowest number.
func TestReady(t *testing.T) {
	n := net.New()
	for _, id := range []uint64{1, 2, 3} { // ages 3, 2, 1
		wantSend(t, n, 0, 1, "a", id)
		n.Age()
	}
	wantDouble(t, n, 2, 4)
	wantSend(t, n, 0, 1, "b", 5)
	wantDouble(t, n, 1, 6)
	wantDouble(t, n, 3, 7)
	wantSend(t, n, 0, 1, "c", 8)
	wantReady(t, n, 1, 6, 2, 4, 3, 7, 5, 8)
	wantReady(t, n, 1, 6, 2, 4, 3, 7, 5, 8)
	var ages []int64
	for i, l := range n.List() {
		if l.ID != uint64(i+1) {
			t.Errorf("List: %d at %d", l.ID, i)
		}
		ages = append(ages, l.Age)
	}
	if !slices.Equal(ages, []int64{3, 2, 1, 2, 0, 3, 1, 0}) {
		t.Errorf("ages %v", ages)
	}
}

// P10.3: who is parted grows older, too, and is in its place when it is ready again.
func TestAge(t *testing.T) {
	n := net.New()
	n.Age() // of no letters
	wantSend(t, n, 0, 1, "a", 1)
	want(t, "Part", n.Part(0, 1), api.OK)
	n.Age()
	wantSend(t, n, 2, 1, "b", 2)
	n.Age()
	wantReady(t, n, 2)
	want(t, "Join", n.Join(0, 1), api.OK)
	wantReady(t, n, 1, 2)
	wantTake(t, n, 2, api.Letter{ID: 2, From: 2, To: 1, Text: "b", Age: 1}, api.OK)
	n.Age()
	wantTake(t, n, 1, api.Letter{ID: 1, From: 0, To: 1, Text: "a", Age: 3}, api.OK)
}

// R5: what was told is nobody's but who asked: what becomes of it changes nothing, and it does not change.
func TestAnswersAreNew(t *testing.T) {
	n := net.New()
	wantSend(t, n, 0, 1, "a", 1)
	wantSend(t, n, 0, 1, "b", 2)
	list, ready := n.List(), n.Ready()
	list[0], list[1].Text, ready[0] = api.Letter{}, "z", 9
	a, b := api.Letter{ID: 1, To: 1, Text: "a"}, api.Letter{ID: 2, To: 1, Text: "b"}
	wantList(t, n, a, b)
	wantReady(t, n, 1, 2)
	list, ready = n.List(), n.Ready()
	n.Age()
	want(t, "Drop", n.Drop(1), api.OK)
	if !slices.Equal(list, []api.Letter{a, b}) || !slices.Equal(ready, []uint64{1, 2}) {
		t.Errorf("told before: %v, %v", list, ready)
	}
	_ = append(n.List(), a)
	wantSend(t, n, 3, 3, "c", 3)
	wantList(t, n, api.Letter{ID: 2, To: 1, Text: "b", Age: 1}, api.Letter{ID: 3, From: 3, To: 3, Text: "c"})
}

// P10.1 to P10.3, R3: neither nil nor what New did not make has letters, or parts anybody; that is told ahead of all else.
func TestNoNet(t *testing.T) {
	long := strings.Repeat("z", api.MaxText+1)
	for what, n := range map[string]*net.Net{"nil": nil, "zero": {}} {
		for range 2 {
			for _, text := range []string{"", "a", long} {
				for _, a := range []int{0, 1, -1, 256} {
					if id, e := n.Send(a, 0, text); id != 0 || e != api.ErrNil {
						t.Errorf("%s: Send = %d, %v", what, id, e)
					}
					want(t, what+": Part", n.Part(a, 1), api.ErrNil)
					want(t, what+": Join", n.Join(a, 1), api.ErrNil)
					wantParted(t, n, a, 1, false)
				}
			}
			for _, id := range []uint64{0, 1, math.MaxUint64} {
				wantTake(t, n, id, api.Letter{}, api.ErrNil)
				want(t, what+": Drop", n.Drop(id), api.ErrNil)
				if got, e := n.Double(id); got != 0 || e != api.ErrNil {
					t.Errorf("%s: Double = %d, %v", what, got, e)
				}
			}
			n.Age()
			wantList(t, n)
			wantReady(t, n)
		}
	}
}
