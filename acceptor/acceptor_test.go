package acceptor_test

import (
	"math"
	"strings"
	"testing"

	"reeve/acceptor"
	"reeve/api"
)

const maxRound = 1 << 48

var long = strings.Repeat("v", api.MaxValue) // the longest value

var none = api.Vote{}

func of(round uint64, node int) api.Ballot { return api.Ballot{Round: round, Node: node} }

func vote(round uint64, node int, value string) api.Vote {
	return api.Vote{Has: true, Ballot: of(round, node), Value: value}
}

// nobodys: ballots that may not be, and the zero one.
func nobodys() []api.Ballot {
	return []api.Ballot{{}, of(0, -1), of(0, 7), of(1, -1), of(1, 7), of(1, 8), of(1, math.MinInt), of(1, math.MaxInt), of(1, 1<<32),
		of(maxRound, 7), of(maxRound, -1), of(maxRound+1, 0), of(maxRound+1, 6), of(1<<63, 0), of(math.MaxUint64, 6), of(math.MaxUint64, 7)}
}

func loaded(t *testing.T, promised api.Ballot, v api.Vote) *acceptor.Acceptor {
	t.Helper()
	a, e := acceptor.Load(promised, v)
	if e != api.OK || a == nil {
		t.Fatalf("Load(%v, %v) = %v, %v", promised, short(v), a, e)
	}
	wantHas(t, a, promised, v)
	return a
}

// short: a vote that can be told in a line.
func short(v api.Vote) api.Vote {
	v.Value = v.Value[:min(len(v.Value), 20)]
	return v
}

func wantHas(t *testing.T, a *acceptor.Acceptor, promised api.Ballot, v api.Vote) {
	t.Helper()
	if got := a.Promised(); got != promised {
		t.Fatalf("Promised = %v, want %v", got, promised)
	}
	if got := a.Vote(); got != v {
		t.Fatalf("Vote = %v, want %v", short(got), short(v))
	}
}

func wantPrepare(t *testing.T, a *acceptor.Acceptor, b api.Ballot, is bool, v api.Vote, e api.Errno) {
	t.Helper()
	if got, told, err := a.Prepare(b); got != is || told != v || err != e {
		t.Fatalf("Prepare(%v) = %v, %v, %v, want %v, %v, %v", b, got, short(told), err, is, short(v), e)
	}
}

func wantAccept(t *testing.T, a *acceptor.Acceptor, b api.Ballot, value string, is bool, e api.Errno) {
	t.Helper()
	if got, err := a.Accept(b, value); got != is || err != e {
		t.Fatalf("Accept(%v, %d bytes) = %v, %v, want %v, %v", b, len(value), got, err, is, e)
	}
}

// The chapter's example.
func TestExample(t *testing.T) {
	a := acceptor.New()
	wantPrepare(t, a, of(1, 0), true, none, api.OK)
	wantAccept(t, a, of(1, 0), "a", true, api.OK)
	wantPrepare(t, a, of(2, 1), true, vote(1, 0, "a"), api.OK)
	wantAccept(t, a, of(1, 0), "b", false, api.OK)
	wantHas(t, a, of(2, 1), vote(1, 0, "a"))
}

// P12.1: New has promised and accepted nothing; each one is by itself.
func TestNew(t *testing.T) {
	a, b := acceptor.New(), acceptor.New()
	wantHas(t, a, api.Ballot{}, none)
	wantAccept(t, a, of(2, 0), "a", true, api.OK)
	wantHas(t, b, api.Ballot{}, none)
	wantPrepare(t, b, of(0, 1), true, none, api.OK)
	wantHas(t, a, of(2, 0), vote(2, 0, "a"))
}

// P12.1: what may be loaded is so, and goes on as one that came there by itself.
func TestLoad(t *testing.T) {
	loaded(t, api.Ballot{}, none)
	for _, promised := range []api.Ballot{of(0, 1), of(0, 6), of(1, 0), of(3, 2), of(maxRound, 0), of(maxRound, 6)} {
		loaded(t, promised, none)
		for _, value := range []string{"", "a", "\x00\xff", long} {
			v := api.Vote{Has: true, Ballot: promised, Value: value}
			wantPrepare(t, loaded(t, promised, v), promised, true, v, api.OK)
			wantAccept(t, loaded(t, promised, v), promised, "b", true, api.OK)
			loaded(t, promised, vote(0, 1, value))
		}
	}
	v := vote(2, 6, "a")
	a := loaded(t, of(3, 2), v)
	wantPrepare(t, a, of(3, 1), false, none, api.OK)
	wantAccept(t, a, of(2, 6), "b", false, api.OK)
	wantHas(t, a, of(3, 2), v)
	wantPrepare(t, a, of(3, 2), true, v, api.OK)
	wantAccept(t, a, of(3, 3), "c", true, api.OK)
	wantHas(t, a, of(3, 3), vote(3, 3, "c"))
}

func wantNotLoaded(t *testing.T, promised api.Ballot, v api.Vote) {
	t.Helper()
	if a, e := acceptor.Load(promised, v); a != nil || e != api.ErrArg {
		t.Errorf("Load(%v, %v) = %v, %v", promised, short(v), a, e)
	}
}

// P12.1: what is promised may not be, alone and beside a vote.
func TestLoadPromised(t *testing.T) {
	for _, promised := range nobodys()[1:] {
		wantNotLoaded(t, promised, none)
		wantNotLoaded(t, promised, vote(1, 0, "a"))
		wantNotLoaded(t, promised, api.Vote{Has: true, Ballot: promised})
	}
}

// P12.1: a vote that may not be: of nobody's ballot, of a value that is too long, or none that is not zero else.
func TestLoadVote(t *testing.T) {
	for _, promised := range []api.Ballot{{}, of(1, 0), of(maxRound, 6)} {
		for _, b := range nobodys() {
			wantNotLoaded(t, promised, api.Vote{Has: true, Ballot: b})
			wantNotLoaded(t, promised, api.Vote{Has: true, Ballot: b, Value: "a"})
		}
		for _, v := range []api.Vote{{Value: "a"}, {Ballot: of(0, 1)}, {Ballot: of(1, 0)}, {Ballot: of(1, 0), Value: "a"},
			{Ballot: of(1, -1)}, {Ballot: of(0, -1)}, {Value: long + "v"}} {
			wantNotLoaded(t, promised, v)
		}
	}
	wantNotLoaded(t, of(1, 0), vote(1, 0, long+"v"))
	wantNotLoaded(t, of(1, 0), vote(0, 1, strings.Repeat("v", 2*api.MaxValue)))
}

// P12.1: the vote's ballot is above what is promised, by its round or by its node.
func TestLoadAbove(t *testing.T) {
	for _, value := range []string{"", "a"} {
		wantNotLoaded(t, api.Ballot{}, vote(0, 1, value))
		wantNotLoaded(t, api.Ballot{}, vote(1, 0, value))
		wantNotLoaded(t, of(1, 2), vote(1, 3, value))
		wantNotLoaded(t, of(1, 6), vote(2, 0, value))
		wantNotLoaded(t, of(maxRound, 5), vote(maxRound, 6, value))
		wantNotLoaded(t, of(maxRound-1, 6), vote(maxRound, 0, value))
	}
}

// P12.2: what is not below is promised, also once more; what is below is not, and is told no vote.
func TestPrepare(t *testing.T) {
	a := acceptor.New()
	for _, b := range []api.Ballot{of(0, 1), of(0, 6), of(1, 0), of(1, 0), of(1, 2), of(5, 1), of(maxRound, 0), of(maxRound, 6), of(maxRound, 6)} {
		wantPrepare(t, a, b, true, none, api.OK)
		wantHas(t, a, b, none)
	}
	a = loaded(t, of(3, 3), vote(2, 1, "a"))
	for _, b := range []api.Ballot{of(3, 2), of(3, 0), of(2, 1), of(2, 6), of(0, 1)} {
		wantPrepare(t, a, b, false, none, api.OK)
		wantHas(t, a, of(3, 3), vote(2, 1, "a"))
	}
	for _, b := range []api.Ballot{of(3, 3), of(3, 4), of(4, 0)} {
		wantPrepare(t, a, b, true, vote(2, 1, "a"), api.OK)
		wantHas(t, a, b, vote(2, 1, "a"))
	}
}

// P12.2: what is not below is promised and accepted, asked for ahead or not, in the place of what was; what is below is not.
func TestAccept(t *testing.T) {
	a := acceptor.New()
	for _, b := range []api.Ballot{of(0, 1), of(1, 0), of(1, 2), of(5, 1), of(maxRound, 0), of(maxRound, 6)} {
		for _, value := range []string{"a", "", "\x00\xff", long, "b"} {
			wantAccept(t, a, b, value, true, api.OK)
			wantHas(t, a, b, api.Vote{Has: true, Ballot: b, Value: value})
		}
	}
	a = loaded(t, of(3, 3), vote(2, 1, "a"))
	for _, b := range []api.Ballot{of(3, 2), of(3, 0), of(2, 1), of(2, 6), of(0, 1)} {
		for _, value := range []string{"", "a", "b", long} {
			wantAccept(t, a, b, value, false, api.OK)
			wantHas(t, a, of(3, 3), vote(2, 1, "a"))
		}
	}
	for _, b := range []api.Ballot{of(3, 3), of(3, 4), of(4, 0)} {
		wantAccept(t, loaded(t, of(3, 3), none), b, "b", true, api.OK)
		wantAccept(t, a, b, "b", true, api.OK)
		wantHas(t, a, b, api.Vote{Has: true, Ballot: b, Value: "b"})
	}
}

// P12.2: nobody's ballot is told ahead of a value that is too long, that ahead of a ballot below; none of them changes anything.
func TestRefused(t *testing.T) {
	for _, v := range []api.Vote{none, vote(2, 1, "a")} {
		a := loaded(t, of(3, 3), v)
		for _, b := range nobodys() {
			wantPrepare(t, a, b, false, none, api.ErrArg)
			wantAccept(t, a, b, "b", false, api.ErrArg)
			wantAccept(t, a, b, long+"v", false, api.ErrArg)
			wantHas(t, a, of(3, 3), v)
		}
		for _, b := range []api.Ballot{of(0, 1), of(3, 2), of(3, 3), of(3, 4), of(maxRound, 6)} {
			wantAccept(t, a, b, long+"v", false, api.ErrLong)
			wantAccept(t, a, b, strings.Repeat("v", 4*api.MaxValue), false, api.ErrLong)
			wantHas(t, a, of(3, 3), v)
		}
	}
	a := acceptor.New()
	wantPrepare(t, a, api.Ballot{}, false, none, api.ErrArg)
	wantAccept(t, a, api.Ballot{}, "", false, api.ErrArg)
	wantAccept(t, a, of(1, 0), long+"v", false, api.ErrLong)
	wantHas(t, a, api.Ballot{}, none)
}

// P12.2, P12.3, R3: of nil, and of one that the package did not make.
func TestNil(t *testing.T) {
	for _, a := range []*acceptor.Acceptor{nil, {}, new(acceptor.Acceptor)} {
		for range 2 {
			wantPrepare(t, a, of(1, 0), false, none, api.ErrNil)
			wantPrepare(t, a, api.Ballot{}, false, none, api.ErrNil)
			wantAccept(t, a, of(1, 0), "a", false, api.ErrNil)
			wantAccept(t, a, api.Ballot{}, "a", false, api.ErrNil)
			wantAccept(t, a, of(1, 0), long+"v", false, api.ErrNil)
			wantHas(t, a, api.Ballot{}, none)
		}
	}
}

// P12.3, R5: what was told stays as it was told.
func TestToldStays(t *testing.T) {
	a := loaded(t, of(1, 0), vote(1, 0, "a"))
	promised, v := a.Promised(), a.Vote()
	_, told, _ := a.Prepare(of(2, 0))
	wantAccept(t, a, of(3, 0), "b", true, api.OK)
	if promised != of(1, 0) || v != vote(1, 0, "a") || told != v {
		t.Errorf("it was told %v, %v, %v", promised, v, told)
	}
}
