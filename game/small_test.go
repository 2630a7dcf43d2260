package game

import (
	"math/rand"
	"slices"
	"testing"

	"watchway/api"
	"watchway/steps"
)

// leads tells whether a token on one flow can get to another one, through no node that is the barred one.
func leads(p api.Process, barred int) [][]bool {
	way := make([][]bool, len(p.Flows))
	for from, f := range p.Flows {
		way[from] = make([]bool, len(p.Flows))
		for to, g := range p.Flows {
			way[from][to] = f.To == g.From && f.To != barred
		}
	}
	for by := range way {
		for from := range way {
			for to := range way {
				way[from][to] = way[from][to] || way[from][by] && way[by][to]
			}
		}
	}
	return way
}

// waits tells whether an NOr does so for a token that may come.
func waits(p api.Process, mark []int, or int) bool {
	way := leads(p, or)
	for in, f := range p.Flows {
		for from := range p.Flows {
			if f.To == or && mark[in] == 0 && mark[from] > 0 && way[from][in] {
				return true
			}
		}
	}
	return false
}

// taken is how many tokens a step takes from each flow, and whether it may.
func taken(p api.Process, mark []int, s api.Step) ([]int, bool) {
	take := make([]int, len(p.Flows))
	if s.In != -1 {
		take[s.In] = 1
		return take, mark[s.In] > 0
	}
	with, without := 0, 0
	for in, f := range p.Flows {
		if f.To != s.Node {
			continue
		}
		take[in] = min(mark[in], 1)
		with += take[in]
		without += 1 - take[in]
	}
	if p.Nodes[s.Node].Kind == api.NAnd {
		return take, without == 0
	}
	return take, with > 0 && !waits(p, mark, s.Node)
}

// plainFire reckons flow by flow what a step leaves.
func plainFire(p api.Process, mark []int, s api.Step) ([]int, api.Errno) {
	take, may := taken(p, mark, s)
	if !may {
		return nil, api.ErrNone
	}
	after := make([]int, len(p.Flows))
	if p.Nodes[s.Node].Kind == api.NStop {
		return after, api.OK
	}
	bit := 1
	for flow, f := range p.Flows {
		after[flow] = mark[flow] - take[flow]
		if f.From == s.Node {
			after[flow] += min(s.Out&bit, 1)
			bit *= 2
		}
		if after[flow] > 9 {
			return nil, api.ErrTokens
		}
	}
	return after, api.OK
}

// lookAt holds Enabled and Fire against the plain reckoning, and tells how often Fire answered what.
func lookAt(t *testing.T, p api.Process, list []api.Step, mark []int, seen map[api.Errno]int) {
	t.Helper()
	var enabled []int
	for number, s := range list {
		want, wantE := plainFire(p, mark, s)
		if wantE != api.ErrNone {
			enabled = append(enabled, number)
		}
		if got, e := Fire(p, mark, number); e != wantE || !slices.Equal(got, want) {
			t.Fatal(p, mark, number, s, ":", got, e, "want", want, wantE)
		}
		seen[wantE]++
	}
	if got, e := Enabled(p, mark); e != api.OK || !slices.Equal(got, enabled) {
		t.Fatal(p, mark, ":", got, e, "want", enabled)
	}
}

// All kinds at up to three nodes, with all choices of up to four flows, at all markings with 0, 1 or 9 tokens on a flow.
func TestSmall(t *testing.T) {
	seen := map[api.Errno]int{}
	for count := 2; count < 4; count++ {
		p := api.Process{Nodes: make([]api.Node, count)}
		eachNodes(p.Nodes, 0, func() {
			eachFlows(&p, 0, func() {
				list, e := steps.Of(p)
				if e != api.OK {
					return
				}
				eachMark(make([]int, len(p.Flows)), 0, func(mark []int) { lookAt(t, p, list, mark, seen) })
			})
		})
	}
	if min(seen[api.OK], seen[api.ErrNone], seen[api.ErrTokens]) < 1000 {
		t.Error("too few of a sort:", seen)
	}
}

// eachNodes goes through all kinds of the nodes from at on.
func eachNodes(nodes []api.Node, at int, do func()) {
	if at == len(nodes) {
		do()
		return
	}
	for kind := api.NStart; kind <= api.NOr; kind++ {
		nodes[at] = api.Node{Name: string(rune('a' + at)), Kind: kind}
		eachNodes(nodes, at+1, do)
	}
}

// eachFlows goes through all choices of further flows, each pair of nodes at least that of the number.
func eachFlows(p *api.Process, least int, do func()) {
	do()
	if len(p.Flows) == 4 {
		return
	}
	for pair := least; pair < len(p.Nodes)*len(p.Nodes); pair++ {
		p.Flows = append(p.Flows, api.Flow{From: pair / len(p.Nodes), To: pair % len(p.Nodes)})
		eachFlows(p, pair, do)
		p.Flows = p.Flows[:len(p.Flows)-1]
	}
}

// eachMark goes through all markings from flow at on.
func eachMark(mark []int, at int, do func([]int)) {
	if at == len(mark) {
		do(mark)
		return
	}
	for _, tokens := range []int{0, 1, 9} {
		mark[at] = tokens
		eachMark(mark, at+1, do)
	}
}

// drawn is a process, or nearly one: a start, ways that go on from node to node, and further flows in any order.
func drawn(r *rand.Rand) api.Process {
	p := api.Process{Nodes: []api.Node{{Name: "start", Kind: api.NStart}}}
	inner := 1 + r.Intn(7)
	for i := range inner {
		p.Nodes = append(p.Nodes, api.Node{Name: string(rune('a' + i)), Kind: api.NTask + r.Intn(4)})
		p.Flows = append(p.Flows, api.Flow{From: i, To: i + 1})
	}
	p.Nodes = append(p.Nodes, api.Node{Name: "last", Kind: api.NEnd + r.Intn(2)})
	p.Flows = append(p.Flows, api.Flow{From: inner, To: inner + 1})
	for range r.Intn(10) {
		if from := 1 + r.Intn(inner); p.Nodes[from].Kind != api.NTask {
			p.Flows = append(p.Flows, api.Flow{From: from, To: 1 + r.Intn(inner+1)})
		}
	}
	r.Shuffle(len(p.Flows), func(i, j int) { p.Flows[i], p.Flows[j] = p.Flows[j], p.Flows[i] })
	return p
}

// drawnMark is a marking of which most flows have nothing.
func drawnMark(r *rand.Rand, flows int) []int {
	mark := make([]int, flows)
	for i := range mark {
		mark[i] = []int{0, 0, 0, 0, 1, 1, 2, 8, 9}[r.Intn(9)]
	}
	return mark
}

func TestDrawn(t *testing.T) {
	r := rand.New(rand.NewSource(4))
	seen := map[api.Errno]int{}
	for range 2000 {
		p := drawn(r)
		list, e := steps.Of(p)
		if e != api.OK {
			continue
		}
		for range 5 {
			lookAt(t, p, list, drawnMark(r, len(p.Flows)), seen)
		}
	}
	if min(seen[api.OK], seen[api.ErrNone], seen[api.ErrTokens]) < 1000 {
		t.Error("too few of a sort:", seen)
	}
}

// plainPlay plays by the plain reckoning.
func plainPlay(p api.Process, list []api.Step, l []int) ([][]int, int, api.Errno) {
	mark := make([]int, len(p.Flows))
	for flow, f := range p.Flows {
		if p.Nodes[f.From].Kind == api.NStart {
			mark[flow] = 1
		}
	}
	marks := [][]int{mark}
	for fired, step := range l {
		after, e := []int(nil), api.ErrArg
		if step >= 0 && step < len(list) {
			after, e = plainFire(p, mark, list[step])
		}
		if e != api.OK {
			return marks, fired, e
		}
		marks, mark = append(marks, after), after
	}
	return marks, len(l), api.OK
}

// drawnPlay is steps of which nearly all can be fired, and some that go wrong.
func drawnPlay(r *rand.Rand, p api.Process, steps int) []int {
	var l []int
	mark, _ := Begin(p)
	for range r.Intn(150) {
		may, _ := Enabled(p, mark)
		if len(may) == 0 || r.Intn(150) == 0 {
			return append(l, r.Intn(steps+2)-1, 0)
		}
		l = append(l, may[r.Intn(len(may))])
		after, e := Fire(p, mark, l[len(l)-1])
		if e != api.OK {
			return append(l, may[0])
		}
		mark = after
	}
	return l
}

func TestDrawnPlay(t *testing.T) {
	r := rand.New(rand.NewSource(5))
	seen := map[api.Errno]int{}
	for range 6000 {
		p := drawn(r)
		list, e := steps.Of(p)
		if e != api.OK {
			continue
		}
		l := drawnPlay(r, p, len(list))
		want, wantFired, wantE := plainPlay(p, list, l)
		got, fired, e := Play(p, l)
		if e != wantE || fired != wantFired || !slices.EqualFunc(got, want, slices.Equal) {
			t.Fatal(p, l, ":", got, fired, e, "want", want, wantFired, wantE)
		}
		seen[e]++
	}
	if min(seen[api.OK], seen[api.ErrNone], seen[api.ErrArg], seen[api.ErrTokens]) < 10 {
		t.Error("too few of a sort:", seen)
	}
}
