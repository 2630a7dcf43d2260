package lasso

import (
	"math"
	"testing"

	"watchway/api"
)

// word is a short way to write a word.
func word(stem, loop []uint64) api.Word { return api.Word{Stem: stem, Loop: loop} }

// letters are so many letters, no two of them the same.
func letters(count int) []uint64 {
	list := make([]uint64, count)
	for i := range list {
		list[i] = uint64(i)*0x0200_0000_0000_0001 + 1
	}
	return list
}

// sized is a word with so many letters in its Stem and in its Loop.
func sized(stem, loop int) api.Word { return word(letters(stem), letters(loop)) }

// wrongWords are words that aren't any, with what Check says of them.
var wrongWords = []struct {
	stem, loop int
	want       api.Errno
}{
	{0, 0, api.ErrArg}, {1, 0, api.ErrArg}, {59, 0, api.ErrArg}, {60, 0, api.ErrArg},
	{61, 0, api.ErrLarge}, {1000, 0, api.ErrLarge}, {61, 1, api.ErrLarge}, {60, 1, api.ErrLarge}, {59, 2, api.ErrLarge},
	{1, 60, api.ErrLarge}, {0, 61, api.ErrLarge}, {30, 31, api.ErrLarge}, {0, 1000, api.ErrLarge}, {1000, 1000, api.ErrLarge},
}

func TestCheckWrong(t *testing.T) {
	for _, c := range wrongWords {
		if e := Check(sized(c.stem, c.loop)); e != c.want {
			t.Error(c, e)
		}
	}
	if e := Check(api.Word{}); e != api.ErrArg {
		t.Error(e)
	}
}

func TestCheckAllSizes(t *testing.T) {
	for stem := range 70 {
		for loop := range 70 {
			want := api.OK
			switch {
			case stem+loop > 60:
				want = api.ErrLarge
			case loop == 0:
				want = api.ErrArg
			}
			if e := Check(sized(stem, loop)); e != want {
				t.Error(stem, loop, e)
			}
		}
	}
}

func TestCheckTakesAnyLetter(t *testing.T) {
	for _, letter := range []uint64{0, 1, 1 << 62, 1 << 63, math.MaxUint64} {
		if e := Check(word([]uint64{letter}, []uint64{letter})); e != api.OK {
			t.Error(letter, e)
		}
	}
}

func TestAtAllSizes(t *testing.T) {
	for stem := range 61 {
		for loop := 1; loop <= 60-stem; loop++ {
			w := sized(stem, loop)
			want := append([]uint64{}, w.Stem...)
			for len(want) < 150 {
				want = append(want, w.Loop...)
			}
			for i, letter := range want {
				if got, e := At(w, i); e != api.OK || got != letter {
					t.Fatal(stem, loop, i, got, e)
				}
			}
		}
	}
}

func TestAtFarPlaces(t *testing.T) {
	w := word([]uint64{9, 8, 7}, []uint64{1, 2, 4, math.MaxUint64, 1 << 63})
	far := uint64(math.MaxInt) - 3
	for back := range uint64(20) {
		want := w.Loop[(far-back)%5]
		if got, e := At(w, int(math.MaxInt-back)); e != api.OK || got != want {
			t.Error(back, got, e)
		}
	}
	if got, e := At(word(nil, []uint64{5}), math.MaxInt); e != api.OK || got != 5 {
		t.Error(got, e)
	}
}

func TestAtWrong(t *testing.T) {
	for _, i := range []int{-1, -2, -60, math.MinInt} {
		if got, e := At(sized(3, 4), i); e != api.ErrArg || got != 0 {
			t.Error(i, got, e)
		}
	}
	for _, c := range wrongWords {
		for _, i := range []int{math.MinInt, -1, 0, 1, 59, math.MaxInt} {
			if got, e := At(sized(c.stem, c.loop), i); e != c.want || got != 0 {
				t.Error(c, i, got, e)
			}
		}
	}
}
