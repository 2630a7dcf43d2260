package scc

import (
	"slices"
	"testing"

	"watchway/api"
)

// eachSmallGraph hands over every graph of up to four nodes; lists fall, and some repeat.
func eachSmallGraph(do func(g [][]int)) {
	for nodes := range 5 {
		for goings := range 1 << (nodes * nodes) {
			g := make([][]int, nodes)
			for bit := nodes*nodes - 1; bit >= 0; bit-- {
				if goings>>bit&1 == 0 {
					continue
				}
				from, to := bit/nodes, bit%nodes
				g[from] = append(g[from], to)
				if goings%3 == 0 {
					g[from] = append(g[from], to)
				}
			}
			do(g)
		}
	}
}

// comes tells of each two nodes whether one comes from one to the other one, by Warshall's rule.
func comes(g [][]int) [][]bool {
	table := make([][]bool, len(g))
	for node, outs := range g {
		table[node] = make([]bool, len(g))
		table[node][node] = true
		for _, to := range outs {
			table[node][to] = true
		}
	}
	for by := range g {
		for from := range g {
			for to := range g {
				table[from][to] = table[from][to] || table[from][by] && table[by][to]
			}
		}
	}
	return table
}

// chosen lists the nodes whose bits are set, the greatest first.
func chosen(nodes, bits int) []int {
	var list []int
	for node := nodes - 1; node >= 0; node-- {
		if bits>>node&1 == 1 {
			list = append(list, node)
		}
	}
	return list
}

func flags(nodes, bits int) []bool {
	list := make([]bool, nodes)
	for _, node := range chosen(nodes, bits) {
		list[node] = true
	}
	return list
}

func TestTurnOfSmallGraphs(t *testing.T) {
	eachSmallGraph(func(g [][]int) {
		want := make([][]int, len(g))
		for to := range g {
			for from := range g {
				if slices.Contains(g[from], to) {
					want[to] = append(want[to], from)
				}
			}
		}
		if x, e := Turn(g); e != api.OK || !sameGraph(x, want) {
			t.Fatal(g, x, e)
		}
	})
}

func TestReachOfSmallGraphs(t *testing.T) {
	eachSmallGraph(func(g [][]int) {
		table := comes(g)
		for bits := range 1 << len(g) {
			from := chosen(len(g), bits)
			x, e := Reach(g, from)
			if e != api.OK || len(x) != len(g) {
				t.Fatal(g, from, x, e)
			}
			for node := range g {
				want := slices.ContainsFunc(from, func(f int) bool { return table[f][node] })
				if x[node] != want {
					t.Fatal(g, from, x)
				}
			}
		}
	})
}

func TestPartsOfSmallGraphs(t *testing.T) {
	eachSmallGraph(func(g [][]int) {
		table := comes(g)
		want := make([]int, len(g))
		count := 0
		for node := range g {
			other := 0
			for !table[node][other] || !table[other][node] {
				other++
			}
			if other < node {
				want[node] = want[other]
				continue
			}
			want[node] = count
			count++
		}
		if x, e := Parts(g); e != api.OK || !slices.Equal(x, want) {
			t.Fatal(g, x, e)
		}
	})
}

// leastByAll tries the lists of nodes in turn: shorter ones first, and those of one length by their numbers.
func leastByAll(g [][]int, from []int, to []bool) []int {
	for length := 1; length <= len(g); length++ {
		if way := leastBehind(g, nil, from, to, length); way != nil {
			return way
		}
	}
	return nil
}

func leastBehind(g [][]int, way, choices []int, to []bool, left int) []int {
	if left == 0 {
		if to[way[len(way)-1]] {
			return way
		}
		return nil
	}
	for node := range g {
		if !slices.Contains(choices, node) {
			continue
		}
		longer := append(slices.Clone(way), node)
		if found := leastBehind(g, longer, g[node], to, left-1); found != nil {
			return found
		}
	}
	return nil
}

func TestWayOfSmallGraphs(t *testing.T) {
	eachSmallGraph(func(g [][]int) {
		// Goings from a node to itself are on no shortest way; the smaller graphs show it, at less cost.
		if len(g) == 4 && goesToItself(g) {
			return
		}
		for bits := range 1 << (2 * len(g)) {
			from, to := chosen(len(g), bits), flags(len(g), bits>>len(g))
			want := leastByAll(g, from, to)
			x, is, e := Way(g, from, to)
			if e != api.OK || is != (want != nil) || !slices.Equal(x, want) {
				t.Fatal(g, from, to, x, is, e)
			}
		}
	})
}

func goesToItself(g [][]int) bool {
	for node, outs := range g {
		if slices.Contains(outs, node) {
			return true
		}
	}
	return false
}

// wide has layers in which each node goes to several of the next layer, by a fixed rule.
func wide(layers, width int) [][]int {
	g := make([][]int, layers*width)
	for layer := range layers - 1 {
		for at := range width {
			for hop := range 3 {
				to := (at*7 + hop*5 + layer*3) % width
				g[layer*width+at] = append(g[layer*width+at], (layer+1)*width+to)
			}
		}
	}
	return g
}

func TestWayOfWideGraphs(t *testing.T) {
	const layers, width = 6, 9
	g := wide(layers, width)
	for first := range width {
		for target := range width {
			from := []int{(first + 4) % width, first}
			to := make([]bool, len(g))
			to[(layers-1)*width+target] = true
			to[(layers-1)*width+(target*2)%width] = true
			want := leastByAll(g, from, to)
			x, is, e := Way(g, from, to)
			if e != api.OK || is != (want != nil) || !slices.Equal(x, want) {
				t.Fatal(from, target, x, want, is, e)
			}
		}
	}
}
