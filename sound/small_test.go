package sound

import (
	"math/rand"
	"slices"
	"testing"

	"watchway/api"
	"watchway/space"
	"watchway/steps"
)

// track is a way from the first marking: the markings on it, and the steps between them.
type track struct{ marks, steps []int }

// before tells whether one track is to be told rather than another one.
func before(a, b track) bool {
	if len(a.marks) != len(b.marks) {
		return len(a.marks) < len(b.marks)
	}
	if c := slices.Compare(a.marks, b.marks); c != 0 {
		return c < 0
	}
	return slices.Compare(a.steps, b.steps) < 0
}

// tracks answers of each marking the best track to it: each edge is tried till none makes a track better.
func tracks(s api.Space) []track {
	best := make([]track, len(s.Marks))
	best[0].marks = []int{0}
	for better := true; better; {
		better = false
		for mark, edges := range s.Next {
			for _, edge := range edges {
				if best[mark].marks == nil {
					continue
				}
				on := track{append(slices.Clone(best[mark].marks), edge.To), append(slices.Clone(best[mark].steps), edge.Step)}
				if best[edge.To].marks == nil || before(on, best[edge.To]) {
					best[edge.To], better = on, true
				}
			}
		}
	}
	return best
}

// tokensOf counts all tokens of a marking.
func tokensOf(mark []int) int {
	sum := 0
	for _, count := range mark {
		sum += count
	}
	return sum
}

// ends tells whether one comes from a marking to one without a token.
func ends(s api.Space, mark int, seen []bool) bool {
	if tokensOf(s.Marks[mark]) == 0 {
		return true
	}
	seen[mark] = true
	return slices.ContainsFunc(s.Next[mark], func(edge api.Edge) bool { return !seen[edge.To] && ends(s, edge.To, seen) })
}

// isDead tells whether no edge has a step of the node.
func isDead(list []api.Step, s api.Space, node int) bool {
	return !slices.ContainsFunc(s.Next, func(edges []api.Edge) bool {
		return slices.ContainsFunc(edges, func(edge api.Edge) bool { return list[edge.Step].Node == node })
	})
}

// plainLook reckons a finding marking by marking, node by node.
func plainLook(p api.Process, s api.Space) api.Finding {
	f := api.Finding{Still: -1, Never: -1}
	list, _ := steps.Of(p)
	for node := range p.Nodes {
		if p.Nodes[node].Kind != api.NStart && isDead(list, s, node) {
			f.Dead = append(f.Dead, node)
		}
	}
	best := tracks(s)
	for mark := len(s.Marks) - 1; mark >= 0; mark-- {
		if len(s.Next[mark]) == 0 && tokensOf(s.Marks[mark]) > 0 {
			f.Still, f.ToStill = mark, best[mark].steps
		}
		if !ends(s, mark, make([]bool, len(s.Marks))) {
			f.Never, f.ToNever = mark, best[mark].steps
		}
	}
	return f
}

// sortOf tells of a finding which of its three parts there are.
func sortOf(f api.Finding) [3]bool {
	return [3]bool{len(f.Dead) > 0, f.Still >= 0, f.Never >= 0}
}

// lookAt holds a finding against the plain reckoning and plays its steps, or asks for Explore's error; it counts what was found.
func lookAt(t *testing.T, p api.Process, tokens, states int, seen map[[3]bool]int) {
	t.Helper()
	s, wantE := space.Explore(p, tokens, states)
	if wantE != api.OK {
		refuses(t, p, tokens, states, wantE)
		return
	}
	want := plainLook(p, s)
	got, e := Look(p, tokens, states)
	if e != api.OK || !sameFinding(got, want) {
		t.Fatal(p, tokens, states, ":", got, e, "want", want)
	}
	if got.Still >= 0 {
		plays(t, p, s, got.ToStill, got.Still)
	}
	if got.Never >= 0 {
		plays(t, p, s, got.ToNever, got.Never)
	}
	seen[sortOf(got)]++
}

// enough asks that each of these sorts was found often.
func enough(t *testing.T, seen map[[3]bool]int, least int, sorts ...[3]bool) {
	t.Helper()
	for _, found := range sorts {
		if seen[found] < least {
			t.Error("too few of", found, ":", seen)
		}
	}
}

// What may be found together in small processes, and what in larger ones alone. What stands still never ends, so two of the eight are left out.
var (
	smallSorts = [][3]bool{{false, false, false}, {false, false, true}, {false, true, true}, {true, true, true}}
	largeSorts = [][3]bool{{true, false, false}, {true, false, true}}
)

// All kinds at up to three nodes, with all choices of up to four flows.
func TestSmall(t *testing.T) {
	seen := map[[3]bool]int{}
	for count := 2; count < 4; count++ {
		p := api.Process{Nodes: make([]api.Node, count)}
		eachNodes(p.Nodes, 0, func() {
			eachFlows(&p, 0, func() {
				if _, e := steps.Of(p); e != api.OK {
					return
				}
				for _, bounds := range [][2]int{{1, 1}, {1, 3}, {1, 200}, {3, 200}, {9, 200}} {
					lookAt(t, p, bounds[0], bounds[1], seen)
				}
			})
		})
	}
	enough(t, seen, 10, smallSorts...)
}

// eachNodes goes through all kinds of the nodes from at on.
func eachNodes(nodes []api.Node, at int, do func()) {
	if at == len(nodes) {
		do()
		return
	}
	for kind := api.NStart; kind <= api.NOr; kind++ {
		nodes[at] = api.Node{Name: string(rune('a' + at)), Kind: kind}
		eachNodes(nodes, at+1, do)
	}
}

// eachFlows goes through all choices of further flows, each pair of nodes at least that of the number.
func eachFlows(p *api.Process, least int, do func()) {
	do()
	if len(p.Flows) == 4 {
		return
	}
	for pair := least; pair < len(p.Nodes)*len(p.Nodes); pair++ {
		p.Flows = append(p.Flows, api.Flow{From: pair / len(p.Nodes), To: pair % len(p.Nodes)})
		eachFlows(p, pair, do)
		p.Flows = p.Flows[:len(p.Flows)-1]
	}
}

// drawn is a process, or nearly one: a start, ways that go on from node to node, and further flows; sometimes a task that only goes round, and a further stop. Nodes and flows stand in any order.
func drawn(r *rand.Rand) api.Process {
	inner := 1 + r.Intn(8)
	p := api.Process{Nodes: []api.Node{{Name: "start", Kind: api.NStart}}}
	for i := range inner {
		p.Nodes = append(p.Nodes, api.Node{Name: string(rune('a' + i)), Kind: api.NTask + r.Intn(4)})
		p.Flows = append(p.Flows, api.Flow{From: i, To: i + 1})
	}
	p.Nodes = append(p.Nodes, api.Node{Name: "last", Kind: api.NEnd + r.Intn(2)})
	p.Flows = append(p.Flows, api.Flow{From: inner, To: inner + 1})
	if r.Intn(3) == 0 {
		p.Nodes = append(p.Nodes, api.Node{Name: "round", Kind: api.NTask})
		p.Flows = append(p.Flows, api.Flow{From: len(p.Nodes) - 1, To: len(p.Nodes) - 1})
	}
	if r.Intn(3) == 0 {
		p.Nodes = append(p.Nodes, api.Node{Name: "stop", Kind: api.NStop})
	}
	for range r.Intn(8) {
		if from := 1 + r.Intn(inner); p.Nodes[from].Kind != api.NTask {
			p.Flows = append(p.Flows, api.Flow{From: from, To: 1 + r.Intn(len(p.Nodes)-1)})
		}
	}
	shuffle(r, &p)
	return p
}

// shuffle puts nodes and flows in any order.
func shuffle(r *rand.Rand, p *api.Process) {
	at := r.Perm(len(p.Nodes))
	nodes := make([]api.Node, len(p.Nodes))
	for node := range p.Nodes {
		nodes[at[node]] = p.Nodes[node]
	}
	p.Nodes = nodes
	for i, flow := range p.Flows {
		p.Flows[i] = api.Flow{From: at[flow.From], To: at[flow.To]}
	}
	r.Shuffle(len(p.Flows), func(i, j int) { p.Flows[i], p.Flows[j] = p.Flows[j], p.Flows[i] })
}

func TestDrawn(t *testing.T) {
	r := rand.New(rand.NewSource(8))
	seen := map[[3]bool]int{}
	for range 6000 {
		p := drawn(r)
		if _, e := steps.Of(p); e != api.OK {
			continue
		}
		lookAt(t, p, 1+r.Intn(9), 1+r.Intn(200), seen)
		lookAt(t, p, 9, 200, seen)
	}
	enough(t, seen, 10, smallSorts...)
	enough(t, seen, 10, largeSorts...)
}

// Wider bounds and other names change nothing.
func TestWiderBounds(t *testing.T) {
	r := rand.New(rand.NewSource(9))
	looked := 0
	for range 2000 {
		p := drawn(r)
		tokens, states := 1+r.Intn(3), 1+r.Intn(30)
		want, e := Look(p, tokens, states)
		if e != api.OK {
			continue
		}
		looked++
		finds(t, p, api.MaxTokens, api.MaxMarks, want)
		for node := range p.Nodes {
			p.Nodes[node].Name = "z" + string(rune('z'-node))
		}
		finds(t, p, tokens, states, want)
	}
	if looked < 200 {
		t.Error("too few:", looked)
	}
}
