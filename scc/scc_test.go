package scc

import (
	"math"
	"slices"
	"testing"

	"watchway/api"
)

// chain goes from each node to the next one.
func chain(nodes int) [][]int {
	g := make([][]int, nodes)
	for node := range nodes - 1 {
		g[node] = []int{node + 1}
	}
	return g
}

func ring(nodes int) [][]int {
	g := chain(nodes)
	g[nodes-1] = []int{0}
	return g
}

func sameGraph(a, b [][]int) bool {
	return slices.EqualFunc(a, b, slices.Equal[[]int])
}

// wrongGraphs are those that Check refuses, with what it says of them.
func wrongGraphs() map[string]struct {
	g    [][]int
	want api.Errno
} {
	type refused = struct {
		g    [][]int
		want api.Errno
	}
	largeAndWrong := chain(api.MaxGraph + 1)
	largeAndWrong[3] = []int{-1}
	lastWrong := chain(api.MaxGraph)
	lastWrong[api.MaxGraph-1] = []int{api.MaxGraph}
	return map[string]refused{
		"one too many":        {make([][]int, api.MaxGraph+1), api.ErrLarge},
		"large ahead of arg":  {largeAndWrong, api.ErrLarge},
		"below the first":     {[][]int{{0, -1}}, api.ErrArg},
		"behind the last":     {[][]int{{0}, {0, 2}}, api.ErrArg},
		"last of a great one": {lastWrong, api.ErrArg},
		"least number":        {[][]int{{math.MinInt}}, api.ErrArg},
		"greatest number":     {[][]int{{math.MaxInt}}, api.ErrArg},
	}
}

func TestCheckTakesGraphs(t *testing.T) {
	for name, g := range map[string][][]int{
		"nil":               nil,
		"no node":           {},
		"one node":          {nil},
		"itself":            {{0}},
		"any order":         {{2, 0, 1}, {}, {1}},
		"more than once":    {{1, 1, 1}, {0, 0}},
		"as many as may be": ring(api.MaxGraph),
	} {
		if e := Check(g); e != api.OK {
			t.Error(name, e)
		}
	}
}

func TestWrongGraphsAreRefusedByAll(t *testing.T) {
	for name, c := range wrongGraphs() {
		to := make([]bool, len(c.g))
		if e := Check(c.g); e != c.want {
			t.Error(name, "check", e)
		}
		if x, e := Turn(c.g); e != c.want || x != nil {
			t.Error(name, "turn", e)
		}
		if x, e := Reach(c.g, []int{0}); e != c.want || x != nil {
			t.Error(name, "reach", e)
		}
		if x, e := Parts(c.g); e != c.want || x != nil {
			t.Error(name, "parts", e)
		}
		if x, is, e := Way(c.g, []int{0}, to); e != c.want || x != nil || is {
			t.Error(name, "way", e)
		}
		// What is wrong with the graph is told ahead of what is wrong with the rest.
		if x, e := Reach(c.g, []int{-1}); e != c.want || x != nil {
			t.Error(name, "reach from nowhere", e)
		}
		if x, is, e := Way(c.g, []int{-1}, nil); e != c.want || x != nil || is {
			t.Error(name, "way from nowhere", e)
		}
	}
}

func TestTurn(t *testing.T) {
	for _, c := range []struct{ g, want [][]int }{
		{nil, nil},
		{[][]int{nil}, [][]int{nil}},
		{[][]int{{0, 0}}, [][]int{{0}}},
		{[][]int{{2, 1}, {2}, {1}, {}}, [][]int{{}, {0, 2}, {0, 1}, {}}},
		{[][]int{{1, 2, 1, 2}, {2, 0}, {2, 2, 0}}, [][]int{{1, 2}, {0}, {0, 1, 2}}},
	} {
		if x, e := Turn(c.g); e != api.OK || !sameGraph(x, c.want) {
			t.Error(c.g, x, e)
		}
	}
}

func TestReach(t *testing.T) {
	g := [][]int{{2, 1}, {2}, {1}, {}, {3}}
	for _, c := range []struct {
		from []int
		want []bool
	}{
		{nil, []bool{false, false, false, false, false}},
		{[]int{3}, []bool{false, false, false, true, false}},
		{[]int{1}, []bool{false, true, true, false, false}},
		{[]int{0}, []bool{true, true, true, false, false}},
		{[]int{4, 2, 4}, []bool{false, true, true, true, true}},
	} {
		if x, e := Reach(g, c.from); e != api.OK || !slices.Equal(x, c.want) {
			t.Error(c.from, x, e)
		}
	}
}

func TestParts(t *testing.T) {
	for _, c := range []struct {
		g    [][]int
		want []int
	}{
		{nil, nil},
		{[][]int{nil, {1}, nil}, []int{0, 1, 2}},
		{[][]int{{2, 1}, {2}, {1}, {}}, []int{0, 1, 1, 2}},
		{[][]int{{3}, {4}, {0}, {2}, {1, 0}}, []int{0, 1, 0, 0, 1}},
		{[][]int{{1}, {2}, {0, 3}, {4}, {3}}, []int{0, 0, 0, 1, 1}},
		{[][]int{{}, {0, 3}, {0}, {1, 2}}, []int{0, 1, 2, 1}},
	} {
		if x, e := Parts(c.g); e != api.OK || !slices.Equal(x, c.want) {
			t.Error(c.g, x, e)
		}
	}
}

func TestWay(t *testing.T) {
	// Two ways of three nodes lead from 0 to 5, one of four is less by its numbers.
	g := [][]int{{4, 3, 1}, {2}, {5}, {5}, {5}, {}, {6}}
	for _, c := range []struct {
		from, targets, want []int
	}{
		{nil, []int{0}, nil},
		{[]int{0}, nil, nil},
		{[]int{0}, []int{6}, nil},
		{[]int{0}, []int{0, 1}, []int{0}},
		{[]int{0}, []int{5}, []int{0, 3, 5}},
		{[]int{0}, []int{4, 1, 5}, []int{0, 1}},
		{[]int{4, 3, 0}, []int{5}, []int{3, 5}},
		{[]int{5, 2, 5, 2}, []int{5, 2}, []int{2}},
		{[]int{6, 1}, []int{5}, []int{1, 2, 5}},
	} {
		to := make([]bool, len(g))
		for _, node := range c.targets {
			to[node] = true
		}
		x, is, e := Way(g, c.from, to)
		if e != api.OK || is != (c.want != nil) || !slices.Equal(x, c.want) {
			t.Error(c.from, c.targets, x, is, e)
		}
	}
}

// The least way may lead through a node that lists put late, and past a node that leads nowhere.
func TestWayIsTheLeastOfTheShortest(t *testing.T) {
	g := [][]int{{5, 4, 1}, {2}, {1}, {8, 7}, {6, 3}, {3, 6}, {7}, {}, {}}
	to := make([]bool, len(g))
	to[7], to[8] = true, true
	if x, is, e := Way(g, []int{0}, to); e != api.OK || !is || !slices.Equal(x, []int{0, 4, 3, 7}) {
		t.Error(x, is, e)
	}
}

func TestWrongFromAndTo(t *testing.T) {
	g := [][]int{{1}, {0}}
	for _, node := range []int{-1, 2, math.MinInt, math.MaxInt} {
		from := []int{0, node}
		if x, e := Reach(g, from); e != api.ErrArg || x != nil {
			t.Error(node, x, e)
		}
		if x, is, e := Way(g, from, []bool{true, true}); e != api.ErrArg || x != nil || is {
			t.Error(node, x, is, e)
		}
	}
	if x, e := Reach(nil, []int{0}); e != api.ErrArg || x != nil {
		t.Error(x, e)
	}
	for _, to := range [][]bool{nil, {true}, {true, true, true}} {
		if x, is, e := Way(g, []int{0}, to); e != api.ErrArg || x != nil || is {
			t.Error(to, x, is, e)
		}
	}
	if x, is, e := Way(nil, nil, []bool{true}); e != api.ErrArg || x != nil || is {
		t.Error(x, is, e)
	}
}

func TestNothingOfNothing(t *testing.T) {
	if x, e := Reach(nil, nil); e != api.OK || len(x) != 0 {
		t.Error(x, e)
	}
	if x, is, e := Way(nil, nil, nil); e != api.OK || is || len(x) != 0 {
		t.Error(x, is, e)
	}
}

func TestGreatestGraphs(t *testing.T) {
	last := api.MaxGraph - 1
	to := make([]bool, api.MaxGraph)
	to[last] = true
	line, round := chain(api.MaxGraph), ring(api.MaxGraph)
	if x, e := Parts(line); e != api.OK || x[0] != 0 || x[last] != last {
		t.Error("parts of a line", e)
	}
	if x, e := Parts(round); e != api.OK || slices.Max(x) != 0 {
		t.Error("parts of a ring", e)
	}
	if x, is, e := Way(line, []int{0}, to); e != api.OK || !is || len(x) != api.MaxGraph || x[last] != last {
		t.Error("way", is, e)
	}
	if x, e := Reach(round, []int{last}); e != api.OK || slices.Contains(x, false) {
		t.Error("reach", e)
	}
	if x, e := Turn(round); e != api.OK || x[0][0] != last || x[last][0] != last-1 {
		t.Error("turn", e)
	}
}
