// Package board: a process that is laid out once, to be played on again and again. Package game has its rules by the document's words (doc/04-game.md); those that fire many steps of one process take the board itself, as laying it out costs far more than a step.
package board

import (
	"slices"

	"watchway/api"
	"watchway/scc"
	"watchway/steps"
)

// Board is a process that has been checked, with what is asked of it again and again.
type Board struct {
	nodes     []api.Node
	flows     []api.Flow
	steps     []api.Step
	ins, outs [][]int // of each node the numbers of its flows, rising
}

// Lay answers the board of a process, or the error of steps.Of.
func Lay(p api.Process) (Board, api.Errno) {
	list, e := steps.Of(p)
	if e != api.OK {
		return Board{}, e
	}
	b := Board{nodes: slices.Clone(p.Nodes), flows: slices.Clone(p.Flows), steps: list}
	b.ins = make([][]int, len(p.Nodes))
	b.outs = make([][]int, len(p.Nodes))
	for number, f := range p.Flows {
		b.ins[f.To] = append(b.ins[f.To], number)
		b.outs[f.From] = append(b.outs[f.From], number)
	}
	return b, api.OK
}

// Begin answers the marking with one token, on the flow out of the start.
func (b Board) Begin() []int {
	mark := make([]int, len(b.flows))
	for number, f := range b.flows {
		if b.nodes[f.From].Kind == api.NStart {
			mark[number] = 1
		}
	}
	return mark
}

// Enabled answers the numbers of the steps that are enabled at a marking, rising; ErrArg, if mark is none.
func (b Board) Enabled(mark []int) ([]int, api.Errno) {
	if !b.isMarking(mark) {
		return nil, api.ErrArg
	}
	var numbers []int
	for number, s := range b.steps {
		if b.isEnabled(mark, s) {
			numbers = append(numbers, number)
		}
	}
	return numbers, api.OK
}

// Fire answers the marking behind the step of that number; ErrArg, if mark is no marking or step no step's number.
func (b Board) Fire(mark []int, step int) ([]int, api.Errno) {
	if !b.isMarking(mark) || step < 0 || step >= len(b.steps) {
		return nil, api.ErrArg
	}
	s := b.steps[step]
	if !b.isEnabled(mark, s) {
		return nil, api.ErrNone
	}
	if b.nodes[s.Node].Kind == api.NStop {
		return make([]int, len(mark)), api.OK
	}
	after := slices.Clone(mark)
	b.take(after, s)
	b.give(after, s)
	// A flow may give and be given to in one step, so it is counted when both are done.
	if slices.Max(after) > api.MaxTokens {
		return nil, api.ErrTokens
	}
	return after, api.OK
}

func (b Board) isMarking(mark []int) bool {
	if len(mark) != len(b.flows) {
		return false
	}
	for _, tokens := range mark {
		if tokens < 0 || tokens > api.MaxTokens {
			return false
		}
	}
	return true
}

func (b Board) isEnabled(mark []int, s api.Step) bool {
	if s.In >= 0 {
		return mark[s.In] > 0
	}
	with := 0
	for _, in := range b.ins[s.Node] {
		if mark[in] > 0 {
			with++
		}
	}
	if b.nodes[s.Node].Kind == api.NAnd {
		return with == len(b.ins[s.Node])
	}
	return with > 0 && !b.mayCome(mark, s.Node)
}

// mayCome tells whether a token can come to a flow into that NOr that has none.
func (b Board) mayCome(mark []int, or int) bool {
	var from []int
	next := make([][]int, len(b.flows))
	for number, f := range b.flows {
		if mark[number] > 0 {
			from = append(from, number)
		}
		// No way leads on through the NOr itself, so what has come to it stays there.
		if f.To != or {
			next[number] = b.outs[f.To]
		}
	}
	// All numbers are those of flows, so there is no error to come.
	reached, _ := scc.Reach(next, from)
	for _, in := range b.ins[or] {
		if mark[in] == 0 && reached[in] {
			return true
		}
	}
	return false
}

// take takes away what an enabled step takes.
func (b Board) take(mark []int, s api.Step) {
	if s.In >= 0 {
		mark[s.In]--
		return
	}
	for _, in := range b.ins[s.Node] {
		// Each flow into an NAnd has a token, as the step is enabled; of an NOr those that have none give none.
		if mark[in] > 0 {
			mark[in]--
		}
	}
}

// give puts a token on each flow out whose bit the step has.
func (b Board) give(mark []int, s api.Step) {
	for place, out := range b.outs[s.Node] {
		if s.Out>>place&1 == 1 {
			mark[out]++
		}
	}
}
