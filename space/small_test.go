package space

import (
	"math/rand"
	"slices"
	"testing"

	"watchway/api"
	"watchway/game"
	"watchway/steps"
)

// visit is a marking that came, and all steps by which it first did.
type visit struct{ mark, steps []int }

// plainExplore goes through the markings by package game alone, and keeps of each the whole way to it.
func plainExplore(p api.Process, tokens, states int) (api.Space, []int, api.Errno) {
	first, _ := game.Begin(p)
	came := []visit{{mark: first}}
	var s api.Space
	for at := 0; at < len(came); at++ {
		here := came[at]
		s.Marks, s.Next = append(s.Marks, here.mark), append(s.Next, nil)
		may, _ := game.Enabled(p, here.mark)
		for _, step := range may {
			way := append(slices.Clone(here.steps), step)
			after, e := game.Fire(p, here.mark, step)
			for _, count := range after {
				if count > tokens {
					e = api.ErrTokens
				}
			}
			if e != api.OK {
				return api.Space{}, way, e
			}
			to := slices.IndexFunc(came, func(v visit) bool { return slices.Equal(v.mark, after) })
			if to < 0 && len(came) >= states {
				return api.Space{}, way, api.ErrStates
			}
			if to < 0 {
				to, came = len(came), append(came, visit{after, way})
			}
			s.Next[at] = append(s.Next[at], api.Edge{Step: step, To: to})
		}
	}
	return s, nil, api.OK
}

// lookAt holds both calls against the plain reckoning, and counts what was answered.
func lookAt(t *testing.T, p api.Process, tokens, states int, seen map[api.Errno]int) {
	t.Helper()
	want, wantRoute, wantE := plainExplore(p, tokens, states)
	if got, e := Explore(p, tokens, states); e != wantE || !sameSpace(got, want) {
		t.Fatal(p, tokens, states, ":", got, e, "want", want, wantE)
	}
	if l, e := Route(p, tokens, states); e != wantE || !slices.Equal(l, wantRoute) {
		t.Fatal(p, tokens, states, ": route", l, e, "want", wantRoute, wantE)
	}
	seen[wantE]++
}

// enough asks that each answer was given often.
func enough(t *testing.T, seen map[api.Errno]int, least int) {
	t.Helper()
	if min(seen[api.OK], seen[api.ErrTokens], seen[api.ErrStates]) < least {
		t.Error("too few of a sort:", seen)
	}
}

// All kinds at up to three nodes, with all choices of up to four flows.
func TestSmall(t *testing.T) {
	seen := map[api.Errno]int{}
	for count := 2; count < 4; count++ {
		p := api.Process{Nodes: make([]api.Node, count)}
		eachNodes(p.Nodes, 0, func() {
			eachFlows(&p, 0, func() {
				if _, e := steps.Of(p); e != api.OK {
					return
				}
				for _, tokens := range []int{1, 2, 9} {
					for _, states := range []int{1, 2, 3, 4, 5, 20, 200} {
						lookAt(t, p, tokens, states, seen)
					}
				}
			})
		})
	}
	enough(t, seen, 500)
}

// eachNodes goes through all kinds of the nodes from at on.
func eachNodes(nodes []api.Node, at int, do func()) {
	if at == len(nodes) {
		do()
		return
	}
	for kind := api.NStart; kind <= api.NOr; kind++ {
		nodes[at] = api.Node{Name: string(rune('a' + at)), Kind: kind}
		eachNodes(nodes, at+1, do)
	}
}

// eachFlows goes through all choices of further flows, each pair of nodes at least that of the number.
func eachFlows(p *api.Process, least int, do func()) {
	do()
	if len(p.Flows) == 4 {
		return
	}
	for pair := least; pair < len(p.Nodes)*len(p.Nodes); pair++ {
		p.Flows = append(p.Flows, api.Flow{From: pair / len(p.Nodes), To: pair % len(p.Nodes)})
		eachFlows(p, pair, do)
		p.Flows = p.Flows[:len(p.Flows)-1]
	}
}

// drawn is a process, or nearly one: a start, ways that go on from node to node, and further flows in any order.
func drawn(r *rand.Rand) api.Process {
	p := api.Process{Nodes: []api.Node{{Name: "start", Kind: api.NStart}}}
	inner := 1 + r.Intn(8)
	for i := range inner {
		p.Nodes = append(p.Nodes, api.Node{Name: string(rune('a' + i)), Kind: api.NTask + r.Intn(4)})
		p.Flows = append(p.Flows, api.Flow{From: i, To: i + 1})
	}
	p.Nodes = append(p.Nodes, api.Node{Name: "last", Kind: api.NEnd + r.Intn(2)})
	p.Flows = append(p.Flows, api.Flow{From: inner, To: inner + 1})
	for range r.Intn(8) {
		if from := 1 + r.Intn(inner); p.Nodes[from].Kind != api.NTask {
			p.Flows = append(p.Flows, api.Flow{From: from, To: 1 + r.Intn(inner+1)})
		}
	}
	r.Shuffle(len(p.Flows), func(i, j int) { p.Flows[i], p.Flows[j] = p.Flows[j], p.Flows[i] })
	return p
}

func TestDrawn(t *testing.T) {
	r := rand.New(rand.NewSource(6))
	seen := map[api.Errno]int{}
	for range 1500 {
		p := drawn(r)
		if _, e := steps.Of(p); e != api.OK {
			continue
		}
		lookAt(t, p, 1+r.Intn(9), 1+r.Intn(200), seen)
		lookAt(t, p, 1+r.Intn(3), 1+r.Intn(20), seen)
	}
	enough(t, seen, 50)
}

// highest is the most tokens that a flow has in a space.
func highest(s api.Space) int {
	most := 0
	for _, mark := range s.Marks {
		most = max(most, slices.Max(mark))
	}
	return most
}

// A space is the same under all bounds that are wide enough, and refused under those that are not.
func TestWiderBounds(t *testing.T) {
	r := rand.New(rand.NewSource(7))
	looked := 0
	for range 1500 {
		p := drawn(r)
		s, e := Explore(p, 9, 200)
		if e != api.OK {
			continue
		}
		looked++
		tokens, states := highest(s), len(s.Marks)
		explores(t, p, tokens, states, s)
		explores(t, p, min(tokens+1, 9), states, s)
		explores(t, p, tokens, min(states+1, 200), s)
		if _, e := Explore(p, tokens, states-1); states > 1 && e != api.ErrStates {
			t.Error(p, tokens, states, e)
		}
		if _, e := Explore(p, tokens-1, states); tokens > 1 && e != api.ErrTokens {
			t.Error(p, tokens, states, e)
		}
	}
	if looked < 100 {
		t.Error("too few:", looked)
	}
}
