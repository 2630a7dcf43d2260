package lasso

import (
	"slices"
	"testing"

	"watchway/api"
)

// equal tells whether two words are the same letter by letter, Stem and Loop.
func equal(v, w api.Word) bool {
	return slices.Equal(v.Stem, w.Stem) && slices.Equal(v.Loop, w.Loop)
}

var leasts = []struct{ given, want api.Word }{
	{word(nil, []uint64{0}), word(nil, []uint64{0})},
	{word(nil, []uint64{7, 7, 7}), word(nil, []uint64{7})},
	{word([]uint64{7, 7}, []uint64{7}), word(nil, []uint64{7})},
	{word([]uint64{7, 7}, []uint64{7, 7, 7}), word(nil, []uint64{7})},
	{word([]uint64{1, 0}, []uint64{2, 0, 2, 0}), word([]uint64{1}, []uint64{0, 2})},
	{word([]uint64{1, 2}, []uint64{1, 2}), word(nil, []uint64{1, 2})},
	{word([]uint64{2}, []uint64{1, 2}), word(nil, []uint64{2, 1})},
	{word([]uint64{1}, []uint64{1, 2}), word([]uint64{1}, []uint64{1, 2})},
	{word([]uint64{2, 1, 2, 1, 2}, []uint64{1, 2}), word(nil, []uint64{2, 1})},
	{word([]uint64{3, 1, 2, 1, 2}, []uint64{1, 2}), word([]uint64{3}, []uint64{1, 2})},
	{word(nil, []uint64{1, 2, 1}), word(nil, []uint64{1, 2, 1})},
	{word(nil, []uint64{1, 1, 2, 1, 1}), word(nil, []uint64{1, 1, 2, 1, 1})},
	{word(nil, []uint64{1, 2, 1, 2, 1}), word(nil, []uint64{1, 2, 1, 2, 1})},
	{word(nil, []uint64{1, 1, 2, 1, 1, 2}), word(nil, []uint64{1, 1, 2})},
	{word([]uint64{0}, []uint64{1 << 63}), word([]uint64{0}, []uint64{1 << 63})},
	{word([]uint64{1 << 63}, []uint64{0, 1 << 63}), word(nil, []uint64{1 << 63, 0})},
}

func TestLeastByHand(t *testing.T) {
	for _, c := range leasts {
		if got, e := Least(c.given); e != api.OK || !equal(got, c.want) {
			t.Error(c.given, got, e)
		}
		if is, e := Same(c.given, c.want); e != api.OK || !is {
			t.Error(c.given, c.want, is, e)
		}
	}
}

// A Loop of so many rounds of each length that goes into 60, and a Stem that is a piece of it.
func TestLeastLongest(t *testing.T) {
	for loop := 1; loop <= 60; loop++ {
		for rounds := 1; rounds*loop <= 60; rounds++ {
			w := word(nil, slices.Repeat(letters(loop), rounds))
			for len(w.Stem) < 60-rounds*loop {
				w.Stem = append([]uint64{w.Loop[len(w.Loop)-1-len(w.Stem)%loop]}, w.Stem...)
			}
			got, e := Least(w)
			begin := (loop - len(w.Stem)%loop) % loop
			want := slices.Concat(letters(loop)[begin:], letters(loop)[:begin])
			if e != api.OK || len(got.Stem) != 0 || !slices.Equal(got.Loop, want) {
				t.Error(loop, rounds, got, e)
			}
		}
	}
}

func TestLeastWrong(t *testing.T) {
	for _, c := range wrongWords {
		if w, e := Least(sized(c.stem, c.loop)); e != c.want || w.Stem != nil || w.Loop != nil {
			t.Error(c, w, e)
		}
	}
}

func TestSameByHand(t *testing.T) {
	for _, c := range []struct {
		v, w api.Word
		want bool
	}{
		{word([]uint64{1}, []uint64{2, 0}), word([]uint64{1, 2}, []uint64{0, 2}), true},
		{word([]uint64{1}, []uint64{2, 0}), word([]uint64{1, 2}, []uint64{2, 0}), false},
		{word(nil, []uint64{1, 2}), word(nil, []uint64{2, 1}), false},
		{word(nil, []uint64{1, 2}), word([]uint64{1}, []uint64{2, 1}), true},
		{word(nil, []uint64{0}), word([]uint64{0, 0}, []uint64{0, 0, 0}), true},
		{word(nil, []uint64{0}), word(nil, []uint64{1 << 63}), false},
		{word(nil, slices.Repeat([]uint64{1}, 59)), word(nil, slices.Repeat([]uint64{1}, 60)), true},
		{word(nil, slices.Repeat([]uint64{1}, 60)), word(nil, append(slices.Repeat([]uint64{1}, 59), 2)), false},
		{word(slices.Repeat([]uint64{1}, 59), []uint64{2}), word(slices.Repeat([]uint64{1}, 58), []uint64{2}), false},
		{word(slices.Repeat([]uint64{1}, 59), []uint64{1}), word(slices.Repeat([]uint64{1}, 58), []uint64{1}), true},
	} {
		for _, pair := range [][2]api.Word{{c.v, c.w}, {c.w, c.v}} {
			if is, e := Same(pair[0], pair[1]); e != api.OK || is != c.want {
				t.Error(pair, is, e)
			}
		}
	}
}

func TestSameWrong(t *testing.T) {
	good := sized(2, 2)
	for _, c := range wrongWords {
		bad := sized(c.stem, c.loop)
		for _, pair := range [][2]api.Word{{good, bad}, {bad, good}, {bad, bad}} {
			if is, e := Same(pair[0], pair[1]); e != c.want || is {
				t.Error(c, is, e)
			}
		}
		for _, d := range wrongWords {
			if is, e := Same(bad, sized(d.stem, d.loop)); e != c.want || is {
				t.Error(c, d, is, e)
			}
		}
	}
}

// Rows of other things than letters may be longer than a word.
func TestFoldLongRows(t *testing.T) {
	row := make([]int, 700)
	for i := range row {
		row[i] = i - 7
	}
	for _, rounds := range []int{1, 2, 3, 90} {
		for _, stem := range []int{0, 1, 699, 700, 701, 2500} {
			for _, ahead := range [][]int{nil, {700}, {1, 2, 3}} {
				// The stem is a piece of what comes again and again, with something ahead of it.
				long := slices.Repeat(row, 4)
				piece := long[len(long)-stem:]
				begin := (700 - stem%700) % 700
				stem, loop := Fold(slices.Concat(ahead, piece), slices.Repeat(row, rounds))
				if !slices.Equal(stem, ahead) || !slices.Equal(loop, slices.Concat(row[begin:], row[:begin])) {
					t.Error(rounds, len(piece), ahead, stem, len(loop))
				}
			}
		}
	}
}

func TestFoldAnswersNewMemory(t *testing.T) {
	given := []string{"a", "b", "c", "b", "c"}
	stem, loop := Fold(given[:1], given[1:])
	if !slices.Equal(stem, []string{"a"}) || !slices.Equal(loop, []string{"b", "c"}) {
		t.Fatal(stem, loop)
	}
	for _, list := range [][]string{stem[:cap(stem)], loop[:cap(loop)]} {
		clear(list)
	}
	if !slices.Equal(given, []string{"a", "b", "c", "b", "c"}) {
		t.Error(given)
	}
}
