package runs

import (
	"math/rand"
	"slices"
	"testing"

	"watchway/api"
	"watchway/game"
	"watchway/space"
	"watchway/steps"
	"watchway/world"
)

// plainEnabled answers of each marking what package game says is enabled.
func plainEnabled(p api.Process, marks [][]int) [][]int {
	var enabled [][]int
	for _, mark := range marks {
		may, _ := game.Enabled(p, mark)
		enabled = append(enabled, may)
	}
	return enabled
}

// plainStates answers what is done at each marking: what is enabled, or nothing.
func plainStates(enabled [][]int) []api.Edge {
	var of []api.Edge
	for at, may := range enabled {
		if len(may) == 0 {
			may = []int{-1}
		}
		for _, step := range may {
			of = append(of, api.Edge{Step: step, To: at})
		}
	}
	return of
}

// plainNext answers the states of the marking behind a state.
func plainNext(p api.Process, marks [][]int, of []api.Edge, state int) []int {
	if of[state].Step == -1 {
		return []int{state}
	}
	after, _ := game.Fire(p, marks[of[state].To], of[state].Step)
	var next []int
	for other, edge := range of {
		if slices.Equal(marks[edge.To], after) {
			next = append(next, other)
		}
	}
	return next
}

// plainLabel answers the letter of a state.
func plainLabel(list []api.Step, edge api.Edge) uint64 {
	bit := uint64(1)
	for node := 0; node < 63 && (edge.Step == -1 || node < list[edge.Step].Node); node++ {
		bit *= 2
	}
	return bit
}

// plainFair answers the states at which a step isn't enabled or is done.
func plainFair(enabled [][]int, of []api.Edge, step int) []int {
	var set []int
	for state, edge := range of {
		if !slices.Contains(enabled[edge.To], step) || edge.Step == step {
			set = append(set, state)
		}
	}
	return set
}

// plainOf reckons the world by package game, state by state; only which number a marking has is package space's word.
func plainOf(p api.Process, marks [][]int) answer {
	list, _ := steps.Of(p)
	enabled := plainEnabled(p, marks)
	a := answer{of: plainStates(enabled)}
	for state, edge := range a.of {
		if edge.To == 0 {
			a.w.Start = append(a.w.Start, state)
		}
		a.w.Next = append(a.w.Next, plainNext(p, marks, a.of, state))
		a.w.Label = append(a.w.Label, plainLabel(list, edge))
	}
	for step := range list {
		a.w.Fair = append(a.w.Fair, plainFair(enabled, a.of, step))
	}
	return a
}

// lookAt holds Of against the plain reckoning, and counts what was answered.
func lookAt(t *testing.T, p api.Process, tokens, states int, seen map[api.Errno]int) {
	t.Helper()
	s, wantE := space.Explore(p, tokens, states)
	if wantE == api.OK && len(plainStates(plainEnabled(p, s.Marks))) > 600 {
		wantE = api.ErrLarge
	}
	seen[wantE]++
	if wantE != api.OK {
		refuses(t, p, tokens, states, wantE)
		return
	}
	want := plainOf(p, s.Marks)
	w, of, e := Of(p, tokens, states)
	if e != api.OK || !want.same(answer{w, of}) {
		t.Fatal(p, tokens, states, ":", w, of, e, "want", want)
	}
	begins, e := world.Fair(w)
	if e != api.OK || slices.Contains(begins, false) {
		t.Fatal(p, w, "begins no fair way:", begins, e)
	}
}

// enough asks that each of these was answered often.
func enough(t *testing.T, seen map[api.Errno]int, least int, errs ...api.Errno) {
	t.Helper()
	for _, e := range errs {
		if seen[e] < least {
			t.Error("too few of", e, ":", seen)
		}
	}
}

// All kinds at up to three nodes, with all choices of up to four flows.
func TestSmall(t *testing.T) {
	seen := map[api.Errno]int{}
	for count := 2; count < 4; count++ {
		p := api.Process{Nodes: make([]api.Node, count)}
		eachNodes(p.Nodes, 0, func() {
			eachFlows(&p, 0, func() {
				if _, e := steps.Of(p); e != api.OK {
					return
				}
				for _, bounds := range [][2]int{{1, 1}, {1, 3}, {1, 200}, {3, 200}, {9, 200}} {
					lookAt(t, p, bounds[0], bounds[1], seen)
				}
			})
		})
	}
	enough(t, seen, 200, api.OK, api.ErrTokens, api.ErrStates)
}

// eachNodes goes through all kinds of the nodes from at on.
func eachNodes(nodes []api.Node, at int, do func()) {
	if at == len(nodes) {
		do()
		return
	}
	for kind := api.NStart; kind <= api.NOr; kind++ {
		nodes[at] = api.Node{Name: string(rune('a' + at)), Kind: kind}
		eachNodes(nodes, at+1, do)
	}
}

// eachFlows goes through all choices of further flows, each pair of nodes at least that of the number.
func eachFlows(p *api.Process, least int, do func()) {
	do()
	if len(p.Flows) == 4 {
		return
	}
	for pair := least; pair < len(p.Nodes)*len(p.Nodes); pair++ {
		p.Flows = append(p.Flows, api.Flow{From: pair / len(p.Nodes), To: pair % len(p.Nodes)})
		eachFlows(p, pair, do)
		p.Flows = p.Flows[:len(p.Flows)-1]
	}
}

// drawn is a process, or nearly one. Nodes and flows stand in any order.
func drawn(r *rand.Rand) api.Process {
	p := mixed(r)
	if r.Intn(2) == 0 {
		p = lanes(r)
	}
	r.Shuffle(len(p.Flows), func(i, j int) { p.Flows[i], p.Flows[j] = p.Flows[j], p.Flows[i] })
	return renumbered(p, r.Perm(len(p.Nodes)))
}

// mixed is a start, ways that go on from node to node of any kind, and further flows.
func mixed(r *rand.Rand) api.Process {
	inner := 1 + r.Intn(8)
	p := api.Process{Nodes: []api.Node{{Name: "start", Kind: api.NStart}}}
	for i := range inner {
		p.Nodes = append(p.Nodes, api.Node{Name: string(rune('a' + i)), Kind: api.NTask + r.Intn(4)})
		p.Flows = append(p.Flows, api.Flow{From: i, To: i + 1})
	}
	p.Nodes = append(p.Nodes, api.Node{Name: "last", Kind: api.NEnd + r.Intn(2)})
	p.Flows = append(p.Flows, api.Flow{From: inner, To: inner + 1})
	for range r.Intn(10) {
		if from := 1 + r.Intn(inner); p.Nodes[from].Kind != api.NTask {
			p.Flows = append(p.Flows, api.Flow{From: from, To: 1 + r.Intn(inner+1)})
		}
	}
	return p
}

// lanes are rows of nodes that are begun at once; in most one may go round, for ever or not.
func lanes(r *rand.Rand) api.Process {
	p := api.Process{
		Nodes: []api.Node{{Name: "start", Kind: api.NStart}, {Name: "all", Kind: api.NAnd}, {Name: "last", Kind: api.NEnd + r.Intn(2)}},
		Flows: []api.Flow{{From: 0, To: 1}, {From: 1, To: 2}},
	}
	for lane := range 1 + r.Intn(4) {
		first, from := len(p.Nodes), 1
		for i := range 1 + r.Intn(4) {
			p.Nodes = append(p.Nodes, api.Node{Name: string([]rune{'a' + rune(lane), 'a' + rune(i)}), Kind: api.NTask + r.Intn(2)})
			p.Flows = append(p.Flows, api.Flow{From: from, To: first + i})
			from = first + i
			if p.Nodes[from].Kind == api.NXor {
				p.Flows = append(p.Flows, api.Flow{From: from, To: first + r.Intn(i+1)})
			}
		}
		p.Flows = append(p.Flows, api.Flow{From: from, To: []int{2, first}[r.Intn(2)]})
	}
	return p
}

// renumbered is a process with its nodes at other places: node n at[n].
func renumbered(p api.Process, at []int) api.Process {
	other := api.Process{Nodes: make([]api.Node, len(p.Nodes))}
	for node := range p.Nodes {
		other.Nodes[at[node]] = p.Nodes[node]
	}
	for _, flow := range p.Flows {
		other.Flows = append(other.Flows, api.Flow{From: at[flow.From], To: at[flow.To]})
	}
	return other
}

func TestDrawn(t *testing.T) {
	r := rand.New(rand.NewSource(20))
	seen := map[api.Errno]int{}
	for range 1500 {
		p := drawn(r)
		if _, e := steps.Of(p); e != api.OK {
			continue
		}
		lookAt(t, p, 1+r.Intn(3), 1+r.Intn(20), seen)
		lookAt(t, p, 9, 200, seen)
	}
	enough(t, seen, 30, api.OK, api.ErrTokens, api.ErrStates, api.ErrLarge)
}

// eachWorld hands over drawn processes that have a world, and their spaces.
func eachWorld(t *testing.T, seed int64, least int, do func(r *rand.Rand, p api.Process, s api.Space, a answer)) {
	t.Helper()
	r := rand.New(rand.NewSource(seed))
	looked := 0
	for range 1500 {
		p := drawn(r)
		w, of, e := Of(p, 9, 200)
		if e != api.OK {
			continue
		}
		looked++
		s, _ := space.Explore(p, 9, 200)
		do(r, p, s, answer{w, of})
	}
	if looked < least {
		t.Error("too few:", looked)
	}
}

// walk is states of a way that is drawn, from one of Start on.
func walk(r *rand.Rand, w api.World, count int) []int {
	row := []int{w.Start[r.Intn(len(w.Start))]}
	for len(row) < count {
		next := w.Next[row[len(row)-1]]
		row = append(row, next[r.Intn(len(next))])
	}
	return row
}

// What a way does can be played, and leads to its markings; where it does nothing nothing is enabled, for ever.
func TestWaysArePlayed(t *testing.T) {
	eachWorld(t, 21, 300, func(r *rand.Rand, p api.Process, s api.Space, a answer) {
		row := walk(r, a.w, 1+r.Intn(100))
		var list []int
		for _, state := range row {
			if a.of[state].Step != -1 {
				list = append(list, a.of[state].Step)
			}
		}
		marks, fired, e := game.Play(p, list)
		if e != api.OK || fired != len(list) {
			t.Fatal(p, list, fired, e)
		}
		for i, state := range row {
			if !slices.Equal(s.Marks[a.of[state].To], marks[min(i, fired)]) {
				t.Fatal(p, row, i, marks)
			}
			if may, _ := game.Enabled(p, marks[min(i, fired)]); i >= fired && len(may) != 0 {
				t.Fatal(p, row, i, may)
			}
		}
	})
}

// What can be played is a way: at each marking there is just one state that does the step, and one may go there.
func TestPlaysAreWays(t *testing.T) {
	eachWorld(t, 22, 300, func(r *rand.Rand, p api.Process, s api.Space, a answer) {
		mark, _ := game.Begin(p)
		goes := a.w.Start
		for range 100 {
			may, _ := game.Enabled(p, mark)
			if len(may) != 0 && len(may) != len(goes) || len(may) == 0 && len(goes) != 1 {
				t.Fatal(p, mark, may, goes)
			}
			if len(may) == 0 {
				break
			}
			step := may[r.Intn(len(may))]
			at := slices.IndexFunc(goes, func(state int) bool { return a.of[state].Step == step })
			if at < 0 || !slices.Equal(s.Marks[a.of[goes[at]].To], mark) {
				t.Fatal(p, mark, step, goes)
			}
			mark, _ = game.Fire(p, mark, step)
			goes = a.w.Next[goes[at]]
		}
	})
}

// roundOf is a path that goes round as soon as a walk comes to where it was, but for its first states.
func roundOf(r *rand.Rand, w api.World) api.Path {
	row := walk(r, w, 1+r.Intn(20))
	for {
		next := w.Next[row[len(row)-1]]
		state := next[r.Intn(len(next))]
		for from := len(row) - 1; from >= 0; from-- {
			if row[from] == state {
				return api.Path{Stem: row[:from], Loop: row[from:]}
			}
		}
		row = append(row, state)
	}
}

// isFair tells whether of each step there is a marking ahead of an element of the loop at which it isn't enabled, or the loop has it.
func isFair(p api.Process, s api.Space, a answer, loop []int) bool {
	list, _ := steps.Of(p)
	for step := range list {
		isFree := func(state int) bool {
			may, _ := game.Enabled(p, s.Marks[a.of[state].To])
			return a.of[state].Step == step || !slices.Contains(may, step)
		}
		if !slices.ContainsFunc(loop, isFree) {
			return false
		}
	}
	return true
}

// The world's fair ways are just those that are weakly fair.
func TestWeakFairness(t *testing.T) {
	count := map[bool]int{}
	eachWorld(t, 23, 300, func(r *rand.Rand, p api.Process, s api.Space, a answer) {
		for range 5 {
			path := roundOf(r, a.w)
			is, e := world.Good(a.w, path)
			if e != api.OK || is != isFair(p, s, a, path.Loop) {
				t.Fatal(p, path, is, e)
			}
			if len(path.Loop) > 1 {
				count[is]++
			}
		}
	})
	if count[true] < 50 || count[false] < 50 {
		t.Error("too few of one sort:", count)
	}
}

// Names have no say, nor have bounds that are wide enough.
func TestOtherNamesWiderBounds(t *testing.T) {
	eachWorld(t, 24, 300, func(r *rand.Rand, p api.Process, s api.Space, a answer) {
		tokens := 1
		for _, mark := range s.Marks {
			tokens = max(tokens, slices.Max(mark))
		}
		tells(t, p, tokens, len(s.Marks), a)
		for node := range p.Nodes {
			p.Nodes[node].Name = "z" + string(rune('z'-node))
		}
		tells(t, p, 9, 200, a)
	})
}

// namesDone lists the names of the nodes whose steps are done, state by state, and how many states each fair set has, sorted.
func namesDone(p api.Process, a answer) ([]string, []int) {
	var names []string
	for _, letter := range a.w.Label {
		name := "silent"
		for node := range p.Nodes {
			if letter == 1<<node {
				name = p.Nodes[node].Name
			}
		}
		names = append(names, name)
	}
	slices.Sort(names)
	var sizes []int
	for _, set := range a.w.Fair {
		sizes = append(sizes, len(set))
	}
	slices.Sort(sizes)
	return names, sizes
}

// With its nodes in another order a process does the same.
func TestAnotherOrder(t *testing.T) {
	eachWorld(t, 25, 300, func(r *rand.Rand, p api.Process, s api.Space, a answer) {
		other := renumbered(p, r.Perm(len(p.Nodes)))
		names, sizes := namesDone(p, a)
		otherNames, otherSizes := namesDone(other, answered(t, other, 9, 200))
		if !slices.Equal(names, otherNames) || !slices.Equal(sizes, otherSizes) {
			t.Fatal(p, other, names, otherNames, sizes, otherSizes)
		}
	})
}
