package joint

import (
	"math/rand"
	"slices"
	"testing"

	"watchway/api"
	"watchway/bitset"
)

// What is fair, and which words go with which automata, is tried at length in packages auto and empty, which answer by a joint.

// someOf draws a list of states: in any order, some more than once.
func someOf(r *rand.Rand, states, most int) []int {
	var list []int
	for range r.Intn(most + 1) {
		list = append(list, r.Intn(states))
	}
	return list
}

// drawn draws a world and an automaton.
func drawn(r *rand.Rand) (api.World, api.Auto) {
	states, others := 1+r.Intn(6), 1+r.Intn(5)
	w := api.World{Start: someOf(r, states, 3)}
	for range states {
		w.Next = append(w.Next, append(someOf(r, states, 2), r.Intn(states)))
		w.Label = append(w.Label, uint64(r.Intn(4)))
	}
	a := api.Auto{Start: someOf(r, others, 3)}
	for range others {
		a.Next = append(a.Next, someOf(r, others, 4))
		a.Must, a.Not = append(a.Must, uint64(r.Intn(4)&r.Intn(4))), append(a.Not, uint64(r.Intn(4)&r.Intn(4)))
	}
	for range r.Intn(3) {
		w.Fair = append(w.Fair, someOf(r, states, states+1))
	}
	for range r.Intn(3) {
		a.Fair = append(a.Fair, someOf(r, others, others+1))
	}
	return w, a
}

// plain is a joint that is laid out: which spots there are, and how many goings lie between each two, at least one; far more, if one doesn't come there.
type plain struct {
	spots []Spot
	far   map[[2]Spot]int
}

const never = 1 << 20

func isSpot(w api.World, a api.Auto, at Spot) bool {
	letter := w.Label[at.World]
	return letter&a.Must[at.Auto] == a.Must[at.Auto] && letter&a.Not[at.Auto] == 0
}

func goes(w api.World, a api.Auto, from, to Spot) bool {
	return isSpot(w, a, from) && isSpot(w, a, to) && slices.Contains(w.Next[from.World], to.World) && slices.Contains(a.Next[from.Auto], to.Auto)
}

// laidOut lays out what among lets be.
func laidOut(w api.World, a api.Auto, among func(Spot) bool) plain {
	p := plain{far: map[[2]Spot]int{}}
	for state := range w.Next {
		for other := range a.Next {
			if at := (Spot{state, other}); isSpot(w, a, at) && among(at) {
				p.spots = append(p.spots, at)
			}
		}
	}
	for _, from := range p.spots {
		for _, to := range p.spots {
			p.far[[2]Spot{from, to}] = never
			if goes(w, a, from, to) {
				p.far[[2]Spot{from, to}] = 1
			}
		}
	}
	for _, by := range p.spots {
		for _, from := range p.spots {
			for _, to := range p.spots {
				p.far[[2]Spot{from, to}] = min(p.far[[2]Spot{from, to}], p.far[[2]Spot{from, by}]+p.far[[2]Spot{by, to}])
			}
		}
	}
	return p
}

func (p plain) comes(from, to Spot) bool { return p.far[[2]Spot{from, to}] < never }

// begins tells whether one may begin at a spot.
func begins(w api.World, a api.Auto, at Spot) bool {
	return slices.Contains(w.Start, at.World) && slices.Contains(a.Start, at.Auto)
}

// meets tells whether a fair set is met at a spot; the world's come first.
func meets(w api.World, a api.Auto, set int, at Spot) bool {
	if set < len(w.Fair) {
		return slices.Contains(w.Fair[set], at.World)
	}
	return slices.Contains(a.Fair[set-len(w.Fair)], at.Auto)
}

// fairSpots are the spots of fair parts to which one comes from where one may begin.
func (p plain) fairSpots(w api.World, a api.Auto) []Spot {
	var list []Spot
	for _, at := range p.spots {
		is := slices.ContainsFunc(p.spots, func(first Spot) bool {
			return begins(w, a, first) && (first == at || p.comes(first, at))
		})
		for set := range len(w.Fair) + len(a.Fair) {
			is = is && slices.ContainsFunc(p.spots, func(to Spot) bool {
				return meets(w, a, set, to) && p.comes(at, to) && p.comes(to, at)
			})
		}
		if is && p.comes(at, at) {
			list = append(list, at)
		}
	}
	return list
}

func everywhere(Spot) bool { return true }

func TestFairParts(t *testing.T) {
	r := rand.New(rand.NewSource(1))
	some, several := 0, 0
	for range 3000 {
		w, a := drawn(r)
		p := laidOut(w, a, everywhere)
		want := p.fairSpots(w, a)
		parts := slices.Collect(Of(w, a).FairParts())
		numbers := map[Spot]int{}
		for number, part := range parts {
			for _, at := range part {
				if _, twice := numbers[at]; twice || !slices.Contains(want, at) {
					t.Fatal(w, a, parts, at)
				}
				numbers[at] = number
			}
		}
		if len(numbers) != len(want) {
			t.Fatal(w, a, parts, "want", want)
		}
		for from, x := range numbers {
			for to, y := range numbers {
				if (x == y) != (p.comes(from, to) && p.comes(to, from)) {
					t.Fatal(w, a, parts, from, to)
				}
			}
		}
		for range Of(w, a).FairParts() {
			some++
			break
		}
		if len(parts) > 1 {
			several++
		}
	}
	if some < 300 || several < 30 {
		t.Error("too few", some, several)
	}
}

// isWay tells whether one goes from each spot of a list to the next one.
func isWay(w api.World, a api.Auto, way []Spot) bool {
	for i := range len(way) - 1 {
		if !goes(w, a, way[i], way[i+1]) {
			return false
		}
	}
	return true
}

// drawnGoals draws which spots are goals.
func drawnGoals(r *rand.Rand, p plain, one int) func(Spot) bool {
	var goals []Spot
	for _, at := range p.spots {
		if r.Intn(one) == 0 {
			goals = append(goals, at)
		}
	}
	return func(at Spot) bool { return slices.Contains(goals, at) }
}

func TestLead(t *testing.T) {
	r := rand.New(rand.NewSource(2))
	sizes := map[int]int{}
	for range 4000 {
		w, a := drawn(r)
		p := laidOut(w, a, everywhere)
		isGoal := drawnGoals(r, p, 6)
		want := never
		for _, from := range p.spots {
			for _, to := range p.spots {
				if !begins(w, a, from) || !isGoal(to) {
					continue
				}
				if from == to {
					want = 0
				}
				want = min(want, p.far[[2]Spot{from, to}])
			}
		}
		way := Of(w, a).Lead(isGoal)
		sizes[len(way)]++
		if len(way) == 0 {
			if want < never {
				t.Fatal(w, a, "none; want", want)
			}
			continue
		}
		if len(way)-1 != want || !begins(w, a, way[0]) || !isGoal(way[len(way)-1]) || !isSpot(w, a, way[0]) || !isWay(w, a, way) {
			t.Fatal(w, a, way, "want", want)
		}
	}
	if sizes[0] < 100 || sizes[1] < 100 || sizes[2] < 100 || sizes[3] < 20 {
		t.Error("too few of one sort", sizes)
	}
}

func TestOnward(t *testing.T) {
	r := rand.New(rand.NewSource(3))
	sizes, again := map[int]int{}, 0
	for range 3000 {
		w, a := drawn(r)
		all := laidOut(w, a, everywhere)
		leaves := drawnGoals(r, all, 8)
		p := laidOut(w, a, func(at Spot) bool { return !leaves(at) })
		if len(p.spots) == 0 {
			continue
		}
		from, isGoal, want := p.spots[r.Intn(len(p.spots))], drawnGoals(r, all, 6), never
		for _, to := range p.spots {
			if isGoal(to) {
				want = min(want, p.far[[2]Spot{from, to}])
			}
		}
		j := Of(w, a)
		through := j.Through(p.spots)
		way := j.Onward(from, through, isGoal)
		sizes[len(way)]++
		if len(way) == 0 {
			if want < never {
				t.Fatal(w, a, from, "none; want", want)
			}
			continue
		}
		last := way[len(way)-1]
		if len(way) != want || !isGoal(last) || !isWay(w, a, append([]Spot{from}, way...)) || slices.ContainsFunc(way, leaves) {
			t.Fatal(w, a, from, way, "want", want)
		}
		if last == from {
			again++
		}
		// What may be gone through isn't changed by it.
		if !slices.Equal(through, j.Through(p.spots)) {
			t.Fatal(w, a, through)
		}
	}
	if sizes[0] < 100 || sizes[1] < 100 || sizes[2] < 100 || sizes[3] < 30 || again < 100 {
		t.Error("too few of one sort", sizes, again)
	}
}

func TestSets(t *testing.T) {
	r := rand.New(rand.NewSource(4))
	for range 300 {
		w, a := drawn(r)
		j := Of(w, a)
		count := len(w.Fair) + len(a.Fair)
		if j.Sets() != bitset.Below(count) {
			t.Fatal(w, a, j.Sets())
		}
		for _, at := range laidOut(w, a, everywhere).spots {
			some := bitset.Of(someOf(r, count+1, 3))
			some.Remove(count)
			left := j.Unmet(some, at)
			for set := range count {
				if left.Has(set) != (some.Has(set) && !meets(w, a, set, at)) {
					t.Fatal(w, a, at, some, left)
				}
			}
			if is := j.Meeting(some)(at); is != (left != some) {
				t.Fatal(w, a, at, some, is)
			}
		}
	}
}
