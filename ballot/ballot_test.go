package ballot_test

import (
	"math"
	"math/bits"
	"math/rand"
	"slices"
	"testing"

	"reeve/api"
	"reeve/ballot"
)

const maxRound = 1 << 48

func of(round uint64, node int) api.Ballot { return api.Ballot{Round: round, Node: node} }

func wantNext(t *testing.T, b api.Ballot, node int, next api.Ballot, e api.Errno) {
	t.Helper()
	if got, err := ballot.Next(b, node); got != next || err != e {
		t.Errorf("Next(%v, %d) = %v, %v, want %v, %v", b, node, got, err, next, e)
	}
}

func wantQuorum(t *testing.T, votes []int, n int, is bool, e api.Errno) {
	t.Helper()
	if got, err := ballot.Quorum(votes, n); got != is || err != e {
		t.Errorf("Quorum(%v, %d) = %v, %v, want %v, %v", votes, n, got, err, is, e)
	}
}

// The chapter's examples.
func TestExamples(t *testing.T) {
	if c := ballot.Cmp(of(2, 1), of(1, 4)); c != 1 {
		t.Errorf("Cmp(2/1, 1/4) = %d", c)
	}
	if c := ballot.Cmp(of(1, 1), of(1, 2)); c != -1 {
		t.Errorf("Cmp(1/1, 1/2) = %d", c)
	}
	wantNext(t, of(1, 2), 3, of(1, 3), api.OK)
	wantNext(t, of(1, 2), 1, of(2, 1), api.OK)
	wantNext(t, of(0, 0), 0, of(1, 0), api.OK)
	if n, e := ballot.Majority(5); n != 3 || e != api.OK {
		t.Errorf("Majority(5) = %d, %v", n, e)
	}
	wantQuorum(t, []int{0, 2, 2}, 5, false, api.OK)
	wantQuorum(t, []int{0, 2, 4}, 5, true, api.OK)
}

// P11.1: which rounds and which nodes may be; the zero ballot, and those of its round, may be, too.
func TestMay(t *testing.T) {
	rounds := map[uint64]bool{0: true, 1: true, 2: true, 1 << 32: true, maxRound - 1: true, maxRound: true,
		maxRound + 1: false, 1 << 49: false, 1 << 63: false, math.MaxUint64: false}
	nodes := map[int]bool{0: true, 1: true, 5: true, 6: true,
		7: false, 8: false, -1: false, -6: false, 1 << 32: false, math.MinInt: false, math.MaxInt: false}
	for round, may := range rounds {
		for node, mayToo := range nodes {
			if got := ballot.May(of(round, node)); got != (may && mayToo) {
				t.Errorf("May(%d/%d) = %v", round, node, got)
			}
		}
	}
}

// P11.1, P11.3: of any two ballots, also of those that may not be, the round tells first, then the node; they stand in one row.
func TestCmp(t *testing.T) {
	var row []api.Ballot
	for _, round := range []uint64{0, 1, 2, 1 << 31, 1 << 32, maxRound - 1, maxRound, maxRound + 1, 1<<63 - 1, 1 << 63, math.MaxUint64} {
		for _, node := range []int{math.MinInt, -7, -1, 0, 1, 2, 6, 7, 1 << 40, math.MaxInt} {
			row = append(row, of(round, node))
		}
	}
	for i, a := range row {
		for j, b := range row {
			want := 0
			if i < j {
				want = -1
			} else if i > j {
				want = 1
			}
			if got := ballot.Cmp(a, b); got != want {
				t.Fatalf("Cmp(%v, %v) = %d, want %d", a, b, got, want)
			}
		}
	}
}

// P11.1: the zero ballot is below all others that may be.
func TestNobodys(t *testing.T) {
	for _, round := range []uint64{0, 1, maxRound} {
		for node := range api.MaxNodes {
			want := 1
			if round == 0 && node == 0 {
				want = 0
			}
			if got := ballot.Cmp(of(round, node), api.Ballot{}); got != want {
				t.Errorf("Cmp(%d/%d, 0/0) = %d, want %d", round, node, got, want)
			}
		}
	}
}

// P11.1: of the same round, if the node is a greater one, else of the round behind it; never of round 0.
func TestNext(t *testing.T) {
	for _, round := range []uint64{0, 1, 2, 7, 1 << 32, maxRound - 2, maxRound - 1} {
		for last := range api.MaxNodes {
			for node := range api.MaxNodes {
				want := of(round, node)
				if node <= last || round == 0 {
					want.Round++
				}
				wantNext(t, of(round, last), node, want, api.OK)
			}
		}
	}
}

// P11.1: none is above b, its round at most the greatest: those of the last round have only the greater nodes behind them.
func TestLastRound(t *testing.T) {
	for last := range api.MaxNodes {
		for node := range api.MaxNodes {
			if node > last {
				wantNext(t, of(maxRound, last), node, of(maxRound, node), api.OK)
			} else {
				wantNext(t, of(maxRound, last), node, api.Ballot{}, api.ErrOver)
			}
		}
	}
}

// P11.1: a ballot or a node that may not be is told, also ahead of that there is none.
func TestNextArg(t *testing.T) {
	wrong := []int{-1, -7, 7, 8, 256, math.MinInt, math.MaxInt}
	for _, node := range wrong {
		for _, b := range []api.Ballot{of(0, 0), of(1, 2), of(maxRound, 0), of(maxRound, 6), of(maxRound+1, 0)} {
			wantNext(t, b, node, api.Ballot{}, api.ErrArg)
		}
		for right := range api.MaxNodes {
			wantNext(t, of(0, node), right, api.Ballot{}, api.ErrArg)
			wantNext(t, of(1, node), right, api.Ballot{}, api.ErrArg)
			wantNext(t, of(maxRound, node), right, api.Ballot{}, api.ErrArg)
		}
	}
	for _, round := range []uint64{maxRound + 1, 1 << 49, 1 << 63, math.MaxUint64} {
		for right := range api.MaxNodes {
			wantNext(t, of(round, 0), right, api.Ballot{}, api.ErrArg)
			wantNext(t, of(round, 6), right, api.Ballot{}, api.ErrArg)
		}
	}
}

// P11.1: what Next answers is that node's, may be, is above b, and nothing of that node stands between.
func TestNextIsTheLeast(t *testing.T) {
	r := rand.New(rand.NewSource(11))
	for range 20000 {
		b, node := of(r.Uint64()%(maxRound-1), r.Intn(api.MaxNodes)), r.Intn(api.MaxNodes)
		if r.Intn(3) == 0 {
			b.Round = uint64(r.Intn(3))
		}
		next, e := ballot.Next(b, node)
		if e != api.OK || next.Node != node || next.Round < 1 || !ballot.May(next) || ballot.Cmp(next, b) != 1 {
			t.Fatalf("Next(%v, %d) = %v, %v", b, node, next, e)
		}
		if ahead := of(next.Round-1, node); next.Round > 1 && ballot.Cmp(ahead, b) == 1 {
			t.Fatalf("Next(%v, %d) = %v: %v is above, too", b, node, next, ahead)
		}
	}
}

// P11.3: however nodes take turns, no ballot is made twice, and each stands above all ahead of it.
func TestNoTwoNodesHaveTheSame(t *testing.T) {
	r := rand.New(rand.NewSource(3))
	last, seen := api.Ballot{}, map[api.Ballot]int{}
	for range 5000 {
		node := r.Intn(api.MaxNodes)
		next, e := ballot.Next(last, node)
		if owner, is := seen[next]; e != api.OK || is || next.Node != node || ballot.Cmp(last, next) != -1 {
			t.Fatalf("Next(%v, %d) = %v, %v (of node %d already: %v)", last, node, next, e, owner, is)
		}
		seen[next], last = node, next
	}
}

// P11.2: the least number that is more than half.
func TestMajority(t *testing.T) {
	for n, want := range map[int]int{1: 1, 2: 2, 3: 2, 4: 3, 5: 3, 6: 4, 7: 4} {
		if got, e := ballot.Majority(n); got != want || e != api.OK {
			t.Errorf("Majority(%d) = %d, %v, want %d", n, got, e, want)
		}
	}
	for _, n := range []int{0, -1, -7, 8, 9, 256, math.MinInt, math.MaxInt} {
		if got, e := ballot.Majority(n); got != 0 || e != api.ErrArg {
			t.Errorf("Majority(%d) = %d, %v", n, got, e)
		}
	}
}

// nodesOf: the nodes whose bits are set.
func nodesOf(set int) []int {
	var nodes []int
	for node := range api.MaxNodes {
		if set>>node&1 == 1 {
			nodes = append(nodes, node)
		}
	}
	return nodes
}

// P11.2: of all sets of nodes; in which order they are told, and how often, does not matter.
func TestQuorum(t *testing.T) {
	r := rand.New(rand.NewSource(2))
	for n := 1; n <= api.MaxNodes; n++ {
		for set := range 1 << n {
			votes, want := nodesOf(set), 2*bits.OnesCount(uint(set)) > n
			wantQuorum(t, votes, n, want, api.OK)
			slices.Reverse(votes)
			wantQuorum(t, votes, n, want, api.OK)
			votes = slices.Concat(votes, votes, votes, votes, votes, votes, votes)
			r.Shuffle(len(votes), func(i, j int) { votes[i], votes[j] = votes[j], votes[i] })
			wantQuorum(t, votes, n, want, api.OK)
		}
	}
}

// P11.2, R4: nobody is no quorum; one node is not, however often it votes, but of one.
func TestFewVotes(t *testing.T) {
	many := make([]int, 1000)
	for n := 1; n <= api.MaxNodes; n++ {
		wantQuorum(t, nil, n, false, api.OK)
		wantQuorum(t, []int{}, n, false, api.OK)
		wantQuorum(t, many, n, n == 1, api.OK)
	}
}

// P11.2: a number of nodes that may not be, and a vote of nobody among them, wherever it stands, also behind a quorum.
func TestQuorumArg(t *testing.T) {
	for _, n := range []int{0, -1, 8, 256, math.MinInt, math.MaxInt} {
		for _, votes := range [][]int{nil, {0}, {0, 1, 2, 3, 4, 5, 6}, {-1}, {7}} {
			wantQuorum(t, votes, n, false, api.ErrArg)
		}
	}
	for n := 1; n <= api.MaxNodes; n++ {
		all := nodesOf(1<<n - 1)
		for _, wrong := range []int{n, n + 1, api.MaxNodes, 256, -1, -n, math.MinInt, math.MaxInt} {
			wantQuorum(t, []int{wrong}, n, false, api.ErrArg)
			for at := range n + 1 {
				wantQuorum(t, slices.Insert(slices.Clone(all), at, wrong), n, false, api.ErrArg)
			}
		}
	}
}

// P11.3: any two quorums of as many nodes have a node in common.
func TestQuorumsMeet(t *testing.T) {
	for n := 1; n <= api.MaxNodes; n++ {
		var quorums []int
		for set := range 1 << n {
			if is, _ := ballot.Quorum(nodesOf(set), n); is {
				quorums = append(quorums, set)
			}
		}
		if len(quorums) == 0 {
			t.Errorf("there is no quorum of %d", n)
		}
		for _, a := range quorums {
			for _, b := range quorums {
				if a&b == 0 {
					t.Fatalf("of %d nodes, %v and %v have none in common", n, nodesOf(a), nodesOf(b))
				}
			}
		}
	}
}

// R5: the votes are as they were.
func TestVotesAreNotChanged(t *testing.T) {
	votes := []int{4, 0, 2, 2, 0}
	wantQuorum(t, votes, 5, true, api.OK)
	if !slices.Equal(votes, []int{4, 0, 2, 2, 0}) {
		t.Errorf("the votes were changed: %v", votes)
	}
}
