package acceptor_test

import (
	"math/rand"
	"strings"
	"testing"

	"reeve/acceptor"
	"reeve/api"
	"reeve/ballot"
)

// model: all that was accepted, in order, and each ballot that was heard, as they came.
type model struct {
	accepted []api.Vote
	heard    []api.Ballot
}

// greatest: the greatest ballot that was heard.
func (m *model) greatest() api.Ballot {
	var b api.Ballot
	for _, one := range m.heard {
		if ballot.Cmp(one, b) > 0 {
			b = one
		}
	}
	return b
}

// last: the vote of the greatest ballot, of those of the same the last one.
func (m *model) last() api.Vote {
	var v api.Vote
	for _, one := range m.accepted {
		if ballot.Cmp(one.Ballot, v.Ballot) >= 0 {
			v = one
		}
	}
	return v
}

func someBallot(r *rand.Rand) api.Ballot {
	b := of(uint64(r.Intn(8)), r.Intn(api.MaxNodes))
	switch r.Intn(12) {
	case 0:
		b.Node = []int{-1, api.MaxNodes}[r.Intn(2)]
	case 1:
		b = api.Ballot{}
	}
	return b
}

func isSomebodys(b api.Ballot) bool { return ballot.May(b) && b != (api.Ballot{}) }

// step asks for one thing, and holds what is answered against the model.
func (m *model) step(t *testing.T, r *rand.Rand, a *acceptor.Acceptor) {
	t.Helper()
	b := someBallot(r)
	hears := isSomebodys(b) && ballot.Cmp(b, m.greatest()) >= 0
	fault := api.OK
	if !isSomebodys(b) {
		fault = api.ErrArg
	}
	if r.Intn(2) == 0 {
		told := none
		if hears {
			told = m.last()
			m.heard = append(m.heard, b)
		}
		wantPrepare(t, a, b, hears, told, fault)
		return
	}
	value := strings.Repeat("v", r.Intn(3))
	if r.Intn(10) == 0 {
		value = long + "v"
		if fault == api.OK {
			hears, fault = false, api.ErrLong
		}
	}
	if hears {
		m.heard = append(m.heard, b)
		m.accepted = append(m.accepted, api.Vote{Has: true, Ballot: b, Value: value})
	}
	wantAccept(t, a, b, value, hears, fault)
}

// P12.1 to P12.4: by chance, against the model; now and then it is made anew of what it has. What is promised never
// falls, nor does the vote's ballot, which is never above it.
func TestByChance(t *testing.T) {
	r := rand.New(rand.NewSource(12))
	for range 3000 {
		a, m := acceptor.New(), &model{}
		for range 40 {
			promised, v := a.Promised(), a.Vote()
			m.step(t, r, a)
			wantHas(t, a, m.greatest(), m.last())
			if ballot.Cmp(a.Promised(), promised) < 0 || ballot.Cmp(a.Vote().Ballot, v.Ballot) < 0 || v.Has && !a.Vote().Has {
				t.Fatalf("it had %v, %v, and has %v, %v", promised, v, a.Promised(), a.Vote())
			}
			if ballot.Cmp(a.Vote().Ballot, a.Promised()) > 0 {
				t.Fatalf("it accepted %v, and promised %v", a.Vote(), a.Promised())
			}
			if r.Intn(6) == 0 {
				a = loaded(t, a.Promised(), a.Vote())
			}
		}
	}
}

// P12.4: whoever was promised a ballot was told all that matters: what was accepted ahead of the promise is of no
// greater ballot than that of the vote that was told, and nothing below the promise is accepted behind it.
func TestWhoWasPromisedKnows(t *testing.T) {
	r := rand.New(rand.NewSource(4))
	promises := 0
	for range 2000 {
		a := acceptor.New()
		var accepted []api.Ballot
		floor := api.Ballot{}
		for range 30 {
			b := of(uint64(r.Intn(6)), r.Intn(3))
			if r.Intn(2) == 0 {
				if is, _ := a.Accept(b, "v"); is {
					accepted = append(accepted, b)
					if ballot.Cmp(b, floor) < 0 {
						t.Fatalf("%v was accepted behind the promise of %v", b, floor)
					}
				}
				continue
			}
			is, told, _ := a.Prepare(b)
			if !is {
				continue
			}
			promises, floor = promises+1, b
			for _, one := range accepted {
				if !told.Has || ballot.Cmp(one, told.Ballot) > 0 {
					t.Fatalf("Prepare(%v) told %v, but %v was accepted", b, told, one)
				}
			}
			if told.Has != (len(accepted) > 0) {
				t.Fatalf("Prepare(%v) told %v, accepted were %v", b, told, accepted)
			}
		}
	}
	if promises == 0 {
		t.Error("nothing was promised")
	}
}
