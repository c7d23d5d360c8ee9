package net_test

import (
	"cmp"
	"math/rand"
	"slices"
	"testing"

	"reeve/api"
	"reeve/net"
)

// model: a net as plainly as it can be: letters by their numbers, and who is parted, both ways.
type model struct {
	letters map[uint64]api.Letter
	last    uint64
	parted  map[[2]int]bool
	sent    map[uint64]api.Letter // each that there ever was, as it was at first
	taken   map[uint64]bool
}

func newModel() *model {
	return &model{map[uint64]api.Letter{}, 0, map[[2]int]bool{}, map[uint64]api.Letter{}, map[uint64]bool{}}
}

func (m *model) put(l api.Letter) (uint64, api.Errno) {
	if len(m.letters) >= api.MaxLetters {
		return 0, api.ErrFull
	}
	m.last++
	l.ID = m.last
	m.letters[l.ID], m.sent[l.ID] = l, l
	return l.ID, api.OK
}

func (m *model) list() []api.Letter {
	var l []api.Letter
	for id := range m.last {
		if one, is := m.letters[id+1]; is {
			l = append(l, one)
		}
	}
	return l
}

func (m *model) ready() []uint64 {
	l := slices.DeleteFunc(m.list(), func(l api.Letter) bool { return m.parted[[2]int{l.From, l.To}] })
	slices.SortStableFunc(l, func(a, b api.Letter) int { return cmp.Compare(b.Age, a.Age) })
	var ids []uint64
	for _, one := range l {
		ids = append(ids, one.ID)
	}
	return ids
}

func (m *model) age() {
	for id, l := range m.letters {
		l.Age++
		m.letters[id] = l
	}
}

// both parts or joins two, both ways.
func (m *model) both(a, b int, parted bool) api.Errno {
	if min(a, b) < 0 || max(a, b) >= api.MaxAddr || a == b {
		return api.ErrArg
	}
	m.parted[[2]int{a, b}], m.parted[[2]int{b, a}] = parted, parted
	return api.OK
}

// take checks what a net took: it was on its way, once, and not between two who were parted.
func (m *model) take(t *testing.T, id uint64, got api.Letter, e api.Errno) {
	t.Helper()
	l, is := m.letters[id]
	switch {
	case !is:
		want(t, "Take", e, api.ErrNone)
	case m.parted[[2]int{l.From, l.To}]:
		want(t, "Take", e, api.ErrCut)
	default:
		want(t, "Take", e, api.OK)
		if first := m.sent[id]; got != l || m.taken[id] || got.From != first.From || got.To != first.To || got.Text != first.Text {
			t.Fatalf("Take(%d) = %v, of %v", id, got, l)
		}
		m.taken[id] = true
		delete(m.letters, id)
		return
	}
	if got != (api.Letter{}) {
		t.Fatalf("Take(%d) = %v beside an error", id, got)
	}
}

// someID: mostly of a letter that is there, or was.
func (m *model) someID(r *rand.Rand) uint64 {
	if r.Intn(3) == 0 {
		return uint64(r.Intn(int(m.last) + 3))
	}
	if l := m.list(); len(l) > 0 {
		return l[r.Intn(len(l))].ID
	}
	return m.last
}

// step does one thing to both, and holds what they tell against each other.
func (m *model) step(t *testing.T, r *rand.Rand, n *net.Net, addresses int) {
	t.Helper()
	a, b, id := r.Intn(addresses+2)-1, r.Intn(addresses+2)-1, m.someID(r)
	switch r.Intn(9) {
	case 0, 1, 2:
		a, b = max(a, 0), max(b, 0)
		text := []string{"", "a", "bc", "\x00"}[r.Intn(4)]
		is, _ := m.put(api.Letter{From: a, To: b, Text: text})
		wantSend(t, n, a, b, text, is)
	case 3:
		got, e := n.Take(id)
		m.take(t, id, got, e)
	case 4:
		l, is := m.letters[id]
		if got, e := n.Double(id); !is && (got != 0 || e != api.ErrNone) {
			t.Fatalf("Double(%d) = %d, %v", id, got, e)
		} else if is {
			next, _ := m.put(l)
			if got != next || e != api.OK {
				t.Fatalf("Double(%d) = %d, %v, want %d", id, got, e, next)
			}
		}
	case 5:
		_, is := m.letters[id]
		delete(m.letters, id)
		if e := n.Drop(id); is != (e == api.OK) || !is && e != api.ErrNone {
			t.Fatalf("Drop(%d) = %v", id, e)
		}
	case 6:
		want(t, "Part", n.Part(a, b), m.both(a, b, true))
	case 7:
		want(t, "Join", n.Join(a, b), m.both(a, b, false))
	case 8:
		n.Age()
		m.age()
	}
}

// P10.1 to P10.4: by chance, against the model, which also checks that what is taken was sent, is taken once, and
// does not come between two who are parted.
func TestByChance(t *testing.T) {
	r := rand.New(rand.NewSource(1))
	taken, cut := 0, 0
	for range 200 {
		n, m := net.New(), newModel()
		addresses := []int{2, 3, 5, api.MaxAddr - 1}[r.Intn(4)]
		for range 150 {
			m.step(t, r, n, addresses)
			wantList(t, n, m.list()...)
			wantReady(t, n, m.ready()...)
			a, b := r.Intn(addresses), r.Intn(addresses)
			wantParted(t, n, a, b, m.parted[[2]int{a, b}])
		}
		taken, cut = taken+len(m.taken), cut+len(m.list())-len(m.ready())
	}
	if taken == 0 || cut == 0 {
		t.Errorf("%d were taken, %d were cut", taken, cut)
	}
}

// P10.3, P10.4: a full net, taken from the front of what is ready till nothing is left, comes oldest first, each once.
func TestTakeAll(t *testing.T) {
	r := rand.New(rand.NewSource(2))
	n := net.New()
	wantSend(t, n, 0, 0, "a", 1)
	for i := range uint64(api.MaxLetters - 1) {
		if r.Intn(40) == 0 {
			n.Age()
		}
		if r.Intn(40) == 0 {
			wantDouble(t, n, 1+uint64(r.Intn(n.Len())), i+2)
		} else {
			wantSend(t, n, r.Intn(9), r.Intn(9), "a", i+2)
		}
	}
	last := api.Letter{ID: 0, Age: 1 << 40}
	ready := n.Ready()
	if len(ready) != api.MaxLetters {
		t.Errorf("%d are ready", len(ready))
	}
	for i, id := range ready {
		l, e := n.Take(id)
		if e != api.OK || l.ID != id || l.Age > last.Age || l.Age == last.Age && id <= last.ID {
			t.Fatalf("%d: %v, %v behind %v", i, l, e, last)
		}
		wantTake(t, n, id, api.Letter{}, api.ErrNone)
		last = l
	}
	wantList(t, n)
}
