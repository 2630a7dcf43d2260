package space

import (
	"slices"

	"watchway/api"
	"watchway/board"
)

// key is a marking as it is held against others: an array, as a list can't be a map's key. Where the process has fewer flows the rest is 0.
type key [api.MaxFlows]uint8

func keyOf(mark []int) key {
	var k key
	for flow, tokens := range mark {
		k[flow] = uint8(tokens)
	}
	return k
}

// arrival is how a marking first came.
type arrival struct {
	from int // the marking from which, or none
	step int // the step by which
}

// none stands where Begin's marking would have one from which it came.
const none = -1

// search is what is known of a process's markings while they are gone through.
type search struct {
	board          board.Board
	tokens, states int // the bounds
	found          api.Space
	numbers        map[key]int // of each marking of found its number
	came           []arrival   // of each marking of found
}

// explore answers the space of a process or, with ErrTokens and ErrStates, the steps that lead to where the error is told.
func explore(p api.Process, tokens, states int) (api.Space, []int, api.Errno) {
	b, e := board.Lay(p)
	if e != api.OK {
		return api.Space{}, nil, e
	}
	if tokens < 1 || tokens > api.MaxTokens || states < 1 || states > api.MaxMarks {
		return api.Space{}, nil, api.ErrArg
	}
	s := search{board: b, tokens: tokens, states: states, numbers: map[key]int{}}
	s.add(b.Begin(), arrival{from: none})
	// Markings are added to the end while they are gone through, so all that come are met in the order in which they came.
	for at := 0; at < len(s.found.Marks); at++ {
		if step, e := s.spread(at); e != api.OK {
			return api.Space{}, append(s.wayTo(at), step), e
		}
	}
	return s.found, nil, api.OK
}

// spread finds the edges of a marking; with an error it answers the step at which it is told.
func (s *search) spread(at int) (int, api.Errno) {
	// What the board answered is a marking of it, so there is no error to come.
	enabled, _ := s.board.Enabled(s.found.Marks[at])
	var edges []api.Edge
	for _, step := range enabled {
		to, e := s.follow(at, step)
		if e != api.OK {
			return step, e
		}
		edges = append(edges, api.Edge{Step: step, To: to})
	}
	s.found.Next = append(s.found.Next, edges)
	return 0, api.OK
}

// follow answers the number of the marking to which an enabled step leads, new or not.
func (s *search) follow(at, step int) (int, api.Errno) {
	after, e := s.board.Fire(s.found.Marks[at], step)
	if e != api.OK {
		return 0, e
	}
	if slices.Max(after) > s.tokens {
		return 0, api.ErrTokens
	}
	if number, known := s.numbers[keyOf(after)]; known {
		return number, api.OK
	}
	if len(s.found.Marks) == s.states {
		return 0, api.ErrStates
	}
	return s.add(after, arrival{from: at, step: step}), api.OK
}

// add gives a new marking its number.
func (s *search) add(mark []int, by arrival) int {
	number := len(s.found.Marks)
	s.numbers[keyOf(mark)] = number
	s.found.Marks = append(s.found.Marks, mark)
	s.came = append(s.came, by)
	return number
}

// wayTo answers the steps by which each marking on the way to that one first came.
func (s *search) wayTo(number int) []int {
	var way []int
	for at := number; s.came[at].from != none; at = s.came[at].from {
		way = append(way, s.came[at].step)
	}
	slices.Reverse(way)
	return way
}
