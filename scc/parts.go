package scc

import "watchway/api"

// Parts tells of each node the number of its part; parts are numbered by their least nodes.
func Parts(g [][]int) ([]int, api.Errno) {
	if e := Check(g); e != api.OK {
		return nil, e
	}
	return number(leasts(g)), api.OK
}

// number turns the least node of each node's part into the part's number.
func number(least []int) []int {
	parts := make([]int, len(least))
	count := 0
	for node, first := range least {
		if first == node {
			parts[node] = count
			count++
			continue
		}
		// The least node of a part has its number before any other one of the part.
		parts[node] = parts[first]
	}
	return parts
}

// leasts tells of each node the least node of its part.
func leasts(g [][]int) []int {
	s := search{
		g:     g,
		met:   make([]int, len(g)),
		low:   make([]int, len(g)),
		next:  make([]int, len(g)),
		least: make([]int, len(g)),
	}
	for node := range g {
		s.least[node] = none
	}
	for node := range g {
		if s.met[node] == 0 {
			s.walk(node)
		}
	}
	return s.least
}

// search goes through a graph in depth, by Tarjan's rule. It keeps its own path: a graph may be as deep as it is large.
type search struct {
	g     [][]int
	count int
	met   []int // when a node was met, from 1 on; 0: not yet
	low   []int // the earliest one that is known to be of a node's part, by when it was met
	next  []int // how much of a node's list is done
	path  []int // from where the walk began to where it is
	open  []int // nodes whose part is not yet whole, as they were met
	least []int // the least node of a node's part; none while that is not whole
}

func (s *search) walk(root int) {
	s.enter(root)
	for len(s.path) > 0 {
		node := s.path[len(s.path)-1]
		if s.next[node] == len(s.g[node]) {
			s.leave(node)
			continue
		}
		to := s.g[node][s.next[node]]
		s.next[node]++
		if s.met[to] == 0 {
			s.enter(to)
		} else if s.least[to] == none {
			s.low[node] = min(s.low[node], s.met[to])
		}
	}
}

func (s *search) enter(node int) {
	s.count++
	s.met[node] = s.count
	s.low[node] = s.count
	s.path = append(s.path, node)
	s.open = append(s.open, node)
}

func (s *search) leave(node int) {
	s.path = s.path[:len(s.path)-1]
	if s.low[node] == s.met[node] {
		s.closePart(node)
		return
	}
	// A node that reaches further back than itself was not the walk's beginning, so one stands before it.
	before := s.path[len(s.path)-1]
	s.low[before] = min(s.low[before], s.low[node])
}

// closePart settles the part of which first was met first: all that is open from it on.
func (s *search) closePart(first int) {
	at := len(s.open) - 1
	for s.open[at] != first {
		at--
	}
	least := first
	for _, node := range s.open[at:] {
		least = min(least, node)
	}
	for _, node := range s.open[at:] {
		s.least[node] = least
	}
	s.open = s.open[:at]
}
