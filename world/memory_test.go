package world

import (
	"slices"
	"testing"

	"watchway/api"
)

// mark is what stands in the room behind lists; no answer has it.
const mark = 0x7ead

// roomy is a list with marked room behind it.
func roomy[T any](list []T, with T) []T {
	return append(slices.Clone(list), with, with)[:len(list)]
}

// roomyLists is roomy of lists and of each list in them.
func roomyLists(lists [][]int) [][]int {
	var out [][]int
	for _, list := range lists {
		out = append(out, roomy(list, mark))
	}
	return roomy(out, roomy([]int{mark}, mark))
}

// given is what the calls are handed.
type given struct {
	w api.World
	p api.Path
}

// roomyGiven is a copy with marked room behind all of its lists.
func roomyGiven(x given) given {
	return given{
		api.World{Start: roomy(x.w.Start, mark), Next: roomyLists(x.w.Next), Label: roomy(x.w.Label, mark), Fair: roomyLists(x.w.Fair)},
		api.Path{Stem: roomy(x.p.Stem, mark), Loop: roomy(x.p.Loop, mark)},
	}
}

// whole is what is given with the room behind its lists made a part of them.
func whole(x given) given {
	lists := func(lists [][]int) [][]int {
		var out [][]int
		for _, list := range lists[:cap(lists)] {
			out = append(out, list[:cap(list)])
		}
		return out
	}
	return given{
		api.World{Start: x.w.Start[:cap(x.w.Start)], Next: lists(x.w.Next), Label: x.w.Label[:cap(x.w.Label)], Fair: lists(x.w.Fair)},
		api.Path{Stem: x.p.Stem[:cap(x.p.Stem)], Loop: x.p.Loop[:cap(x.p.Loop)]},
	}
}

// same holds what is given against each other.
func (x given) same(y given) bool {
	return sameWorld(x.w, y.w) && slices.Equal(x.p.Stem, y.p.Stem) && slices.Equal(x.p.Loop, y.p.Loop)
}

// fill overwrites a list and its spare room.
func fill[T any](list []T, with T) {
	list = list[:cap(list)]
	for i := range list {
		list[i] = with
	}
}

// spoil overwrites all that is given, room included.
func (x given) spoil() {
	for _, list := range slices.Concat(x.w.Next, x.w.Fair, [][]int{x.w.Start, x.p.Stem, x.p.Loop}) {
		fill(list, mark)
	}
	fill(x.w.Label, mark)
	fill(x.w.Next, nil)
	fill(x.w.Fair, nil)
}

// handed are worlds and paths of all sorts, wrong ones among them.
func handed() []given {
	list := []given{
		{},
		{open(ring(1)), path(nil, 0)},
		{open(ring(3), []int{2}, []int{2, 0}, []int{1}), path([]int{0}, 1, 2, 0)},
		{open(dense(4), []int{1, 1, 3}, nil), path([]int{0, 1, 2, 3}, 3)},
		{open([][]int{{1, 1, 0}, {2, 0, 2}, {0}}, []int{0, 1, 2}, []int{2, 1}), path(nil, 0, 1, 2)},
		{open(dense(2)), path([]int{0}, 9)},
		{open(dense(2)), path([]int{0, 1})},
		{open(ring(70)), long(0, 70)},
		{open(ring(600)), long(1, 60000)},
	}
	for _, x := range wrongs() {
		list = append(list, given{x.w, path([]int{0}, 1, 0)})
	}
	return list
}

// answers are those of all calls to what is given.
type answers struct {
	errs [4]api.Errno
	fair []bool
	good bool
	word api.Word
}

func ask(x given) answers {
	var a answers
	a.errs[0] = Check(x.w)
	a.fair, a.errs[1] = Fair(x.w)
	a.good, a.errs[2] = Good(x.w, x.p)
	a.word, a.errs[3] = Word(x.w, x.p)
	return a
}

func (a answers) same(b answers) bool {
	return a.errs == b.errs && slices.Equal(a.fair, b.fair) && a.good == b.good && sameWord(a.word, b.word)
}

// clone is a copy of the answers.
func (a answers) clone() answers {
	a.fair = slices.Clone(a.fair)
	a.word = api.Word{Stem: slices.Clone(a.word.Stem), Loop: slices.Clone(a.word.Loop)}
	return a
}

// spoil overwrites all lists of the answers, room included.
func (a answers) spoil() {
	for i := range a.fair[:cap(a.fair)] {
		a.fair[:cap(a.fair)][i] = i%2 == 0
	}
	fill(a.word.Stem, mark)
	fill(a.word.Loop, mark)
}

func TestHandedInStays(t *testing.T) {
	for i, was := range handed() {
		x, want := roomyGiven(was), whole(roomyGiven(was))
		ask(x)
		if !whole(x).same(want) {
			t.Error(i, x)
		}
	}
}

// places hands over where the letters of lists lie, room included.
func places(do func(place *uint64), lists ...[]uint64) {
	for _, list := range lists {
		for i := range list[:cap(list)] {
			do(&list[:cap(list)][i])
		}
	}
}

func TestAnswersLieApart(t *testing.T) {
	for i, was := range handed() {
		x := roomyGiven(was)
		lies := map[*uint64]int{}
		count := func(place *uint64) { lies[place]++ }
		places(count, x.w.Label)
		for range 2 {
			a := ask(x)
			places(count, a.word.Stem, a.word.Loop)
		}
		for _, times := range lies {
			if times > 1 {
				t.Error(i, x, "shares memory")
			}
		}
		one, _ := Fair(x.w)
		two, _ := Fair(x.w)
		if len(one) > 0 && &one[0] == &two[0] {
			t.Error(i, "the same list twice")
		}
	}
}

// A list that grows into its spare room alters no other one.
func TestGrowingListsAreApart(t *testing.T) {
	w := open(ring(5))
	x, e := Word(w, path([]int{0, 1}, 2, 3, 4))
	if e != api.OK {
		t.Fatal(e)
	}
	stem := x.Stem
	for range 20 {
		stem = append(stem, mark)
	}
	fill(x.Stem, mark)
	if !slices.Equal(x.Loop, []uint64{3, 4, 5}) || !slices.Equal(w.Label, []uint64{1, 2, 3, 4, 5}) {
		t.Error(x, w)
	}
}

// What is handed in may have one list at several places.
func TestSharedLists(t *testing.T) {
	all := roomy([]int{1, 0, 1}, mark)
	w := api.World{Start: all, Next: [][]int{all, all}, Label: roomy([]uint64{7, 8}, mark), Fair: [][]int{all, all[:1], all}}
	fair(t, "", w, 0, 1)
	good(t, "", w, path(all, all...), true)
	good(t, "", w, path(all[:1], all[1:2]...), false)
	word(t, "", w, path(all, all[:2]...), []uint64{8, 7, 8}, []uint64{8, 7})
	if !slices.Equal(all[:5], []int{1, 0, 1, mark, mark}) {
		t.Error(all[:5])
	}
	// Good asks for the way from a Loop's end to its beginning: there is no room for that in what is handed in.
	row := []int{0, 1, 0, 1, mark, mark}
	good(t, "", open(ring(2)), path(row[:2], row[2:4]...), true)
	if !slices.Equal(row, []int{0, 1, 0, 1, mark, mark}) {
		t.Error(row)
	}
}

// An answer that is spoilt, room included, alters no later one; what was handed in, spoilt afterwards, no answer; an error leaves nothing behind.
func TestNothingIsKept(t *testing.T) {
	for i, was := range handed() {
		x := roomyGiven(was)
		a := ask(x)
		x.spoil()
		want := ask(roomyGiven(was))
		if !a.same(want) {
			t.Error(i, a, "want", want)
		}
		want = want.clone()
		a.spoil()
		for _, bad := range wrongs() {
			ask(given{bad.w, was.p})
		}
		if again := ask(was); !again.same(want) {
			t.Error(i, again, "want", want)
		}
	}
}
