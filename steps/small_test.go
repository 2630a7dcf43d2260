package steps

import (
	"math/bits"
	"math/rand"
	"slices"
	"testing"

	"watchway/api"
	"watchway/proc"
)

// isStep tells whether a node may do that, looking at the flows alone.
func isStep(p api.Process, s api.Step) bool {
	outs := 0
	for _, f := range p.Flows {
		if f.From == s.Node {
			outs++
		}
	}
	takes := s.In >= 0 && p.Flows[s.In].To == s.Node
	all := s.Out == 1<<outs-1
	switch p.Nodes[s.Node].Kind {
	case api.NTask:
		return takes && s.Out == 1
	case api.NXor:
		return takes && bits.OnesCount(uint(s.Out)) == 1
	case api.NAnd:
		return s.In == -1 && all
	case api.NOr:
		return s.In == -1 && s.Out != 0
	case api.NEnd, api.NStop:
		return takes && s.Out == 0
	}
	return false
}

// plainOf tries all that could be a step, by node, flow in and bits out: the order of the document.
func plainOf(p api.Process) []api.Step {
	var found []api.Step
	for n := range p.Nodes {
		outs := 0
		for _, f := range p.Flows {
			if f.From == n {
				outs++
			}
		}
		for in := -1; in < len(p.Flows); in++ {
			for out := range 1 << outs {
				if s := step(n, in, out); isStep(p, s) {
					found = append(found, s)
				}
			}
		}
	}
	return found
}

// lookAt holds Of against the plain reckoning.
func lookAt(t *testing.T, p api.Process) api.Errno {
	t.Helper()
	var steps []api.Step
	e := proc.Check(p)
	if e == api.OK {
		steps = plainOf(p)
	}
	if len(steps) > 60 {
		steps, e = nil, api.ErrLarge
	}
	if got, gotE := Of(p); gotE != e || !slices.Equal(got, steps) {
		t.Fatal(p, ":", got, gotE, "want", steps, e)
	}
	return e
}

// All kinds at up to three nodes, with all choices of up to five flows.
func TestSmall(t *testing.T) {
	names := []string{"a", "b", "c"}
	for count := range 4 {
		p := api.Process{}
		var flows func(least int)
		flows = func(least int) {
			lookAt(t, p)
			if len(p.Flows) == 5 {
				return
			}
			for pair := least; pair < count*count; pair++ {
				p.Flows = append(p.Flows, flow(pair/count, pair%count))
				flows(pair)
				p.Flows = p.Flows[:len(p.Flows)-1]
			}
		}
		var nodes func()
		nodes = func() {
			if len(p.Nodes) == count {
				flows(0)
				return
			}
			for kind := api.NStart; kind <= api.NOr; kind++ {
				p.Nodes = append(p.Nodes, node(kind, names[len(p.Nodes)]))
				nodes()
				p.Nodes = p.Nodes[:len(p.Nodes)-1]
			}
		}
		nodes()
	}
}

// drawn is a process, or nearly one: a start anywhere, ways that go on from node to node, and further flows in any order.
func drawn(r *rand.Rand) api.Process {
	var p api.Process
	inner := 1 + r.Intn(6)
	last := inner + 1
	p.Nodes = append(p.Nodes, node(api.NStart, "start"))
	for i := range inner {
		p.Nodes = append(p.Nodes, node(api.NTask+r.Intn(4), string(rune('a'+i))))
		p.Flows = append(p.Flows, flow(i, i+1))
	}
	p.Nodes = append(p.Nodes, node(api.NEnd+r.Intn(2), "last"))
	p.Flows = append(p.Flows, flow(inner, last))
	for range r.Intn(16) {
		from := 1 + r.Intn(inner)
		if p.Nodes[from].Kind != api.NTask {
			p.Flows = append(p.Flows, flow(from, 1+r.Intn(last)))
		}
	}
	r.Shuffle(len(p.Flows), func(i, j int) { p.Flows[i], p.Flows[j] = p.Flows[j], p.Flows[i] })
	return turned(p, r.Perm(len(p.Nodes)))
}

// turned is the process with its nodes in another order.
func turned(p api.Process, place []int) api.Process {
	q := api.Process{Nodes: make([]api.Node, len(p.Nodes))}
	for i, n := range p.Nodes {
		q.Nodes[place[i]] = n
	}
	for _, f := range p.Flows {
		q.Flows = append(q.Flows, flow(place[f.From], place[f.To]))
	}
	return q
}

func TestDrawn(t *testing.T) {
	r := rand.New(rand.NewSource(3))
	seen := map[api.Errno]int{}
	for range 5000 {
		seen[lookAt(t, drawn(r))]++
	}
	if seen[api.OK] < 1000 || seen[api.ErrLarge] < 10 {
		t.Error("too few of a sort are drawn:", seen)
	}
}
