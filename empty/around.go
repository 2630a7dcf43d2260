package empty

import (
	"watchway/bitset"
	"watchway/joint"
)

// around answers a way through a fair part, from a spot of it on, and the place at which it begins what comes again and again: there each fair set is met, and from the way's end one goes back to that place.
func around(j *joint.Joint, part []joint.Spot, from joint.Spot) (way []joint.Spot, begin int) {
	through := j.Through(part)
	way = tour(j, through, from)
	places := map[joint.Spot]int{}
	for place, at := range way[:enough(j, way)+1] {
		places[at] = place
	}
	back := j.Onward(way[len(way)-1], through, func(at joint.Spot) bool {
		_, is := places[at]
		return is
	})
	last := len(back) - 1
	return append(way, back[:last]...), places[back[last]]
}

// tour answers a way from a spot on that ends as soon as it has met each fair set: it goes to the nearest spot that meets one more, again and again.
func tour(j *joint.Joint, through []bitset.Set, from joint.Spot) []joint.Spot {
	way := []joint.Spot{from}
	unmet := j.Unmet(j.Sets(), from)
	for unmet != (bitset.Set{}) {
		way = append(way, j.Onward(way[len(way)-1], through, j.Meeting(unmet))...)
		unmet = j.Unmet(unmet, way[len(way)-1])
	}
	return way
}

// enough answers the last place from which on a way that meets each fair set still does.
func enough(j *joint.Joint, way []joint.Spot) int {
	unmet, place := j.Sets(), len(way)
	for place == len(way) || unmet != (bitset.Set{}) {
		place--
		unmet = j.Unmet(unmet, way[place])
	}
	return place
}
