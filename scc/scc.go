// Package scc: graphs: see doc/01-scc.md.
package scc

import "watchway/api"

// none stands where a node or a distance would, if there were one.
const none = -1

// Check tells whether g is a graph: ErrLarge if it has too many nodes, ErrArg if a list names a node that isn't there.
func Check(g [][]int) api.Errno {
	if len(g) > api.MaxGraph {
		return api.ErrLarge
	}
	for _, outs := range g {
		if !areNodes(g, outs) {
			return api.ErrArg
		}
	}
	return api.OK
}

// Turn answers the graph whose goings are those of g, each the other way round; its lists rise and repeat nothing.
func Turn(g [][]int) ([][]int, api.Errno) {
	if e := Check(g); e != api.OK {
		return nil, e
	}
	turned := make([][]int, len(g))
	for node, outs := range g {
		for _, to := range outs {
			// Nodes come in rising order, so one that is there already is the last one.
			if !endsWith(turned[to], node) {
				turned[to] = append(turned[to], node)
			}
		}
	}
	return turned, api.OK
}

// Reach tells of each node whether one comes to it from a node of from.
func Reach(g [][]int, from []int) ([]bool, api.Errno) {
	if e := checkFrom(g, from); e != api.OK {
		return nil, e
	}
	far, _ := distances(g, from)
	reached := make([]bool, len(g))
	for node, d := range far {
		reached[node] = d != none
	}
	return reached, api.OK
}

// checkFrom is Check, and ErrArg if a number of from is no node's.
func checkFrom(g [][]int, from []int) api.Errno {
	if e := Check(g); e != api.OK {
		return e
	}
	if !areNodes(g, from) {
		return api.ErrArg
	}
	return api.OK
}

func areNodes(g [][]int, list []int) bool {
	for _, node := range list {
		if node < 0 || node >= len(g) {
			return false
		}
	}
	return true
}

func endsWith(list []int, node int) bool {
	return len(list) > 0 && list[len(list)-1] == node
}
