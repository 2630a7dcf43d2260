package scc

import "watchway/api"

// Way answers the least of the shortest ways from a node of from to one of which to is true, and whether there is one.
func Way(g [][]int, from []int, to []bool) ([]int, bool, api.Errno) {
	if e := checkFrom(g, from); e != api.OK {
		return nil, false, e
	}
	if len(to) != len(g) {
		return nil, false, api.ErrArg
	}
	far, order := distances(g, from)
	length := nearest(order, far, to)
	if length == none {
		return nil, false, api.OK
	}
	return leastWay(g, from, far, leading(g, order, far, to, length), length), true, api.OK
}

// distances tells of each node how many goings lie between it and from, and lists the nodes one comes to, the near ones first.
func distances(g [][]int, from []int) (far, order []int) {
	far = make([]int, len(g))
	for node := range far {
		far[node] = none
	}
	meet := func(list []int, d int) {
		for _, node := range list {
			if far[node] == none {
				far[node] = d
				order = append(order, node)
			}
		}
	}
	meet(from, 0)
	for i := 0; i < len(order); i++ {
		meet(g[order[i]], far[order[i]]+1)
	}
	return far, order
}

// nearest tells how far the first node is of which to is true.
func nearest(order, far []int, to []bool) int {
	for _, node := range order {
		if to[node] {
			return far[node]
		}
	}
	return none
}

// leading tells of each node whether it stands on a way of the given length to a node of which to is true.
func leading(g [][]int, order, far []int, to []bool, length int) []bool {
	leads := make([]bool, len(g))
	// From the far end on: whether a node leads there hangs on nodes that are one going further off.
	for i := len(order) - 1; i >= 0; i-- {
		node := order[i]
		switch {
		case far[node] == length:
			leads[node] = to[node]
		case far[node] < length:
			leads[node] = leastLeading(g[node], far, leads, far[node]+1) != none
		}
	}
	return leads
}

// leastWay goes by the least node that leads on, again and again: no other way of that length is less.
func leastWay(g [][]int, from, far []int, leads []bool, length int) []int {
	way := make([]int, 0, length+1)
	choices := from
	for d := 0; d <= length; d++ {
		node := leastLeading(choices, far, leads, d)
		way = append(way, node)
		choices = g[node]
	}
	return way
}

// leastLeading is the least node of a list that is d goings off and leads on; none if there is none.
func leastLeading(list, far []int, leads []bool, d int) int {
	least := none
	for _, node := range list {
		if leads[node] && far[node] == d && (least == none || node < least) {
			least = node
		}
	}
	return least
}
