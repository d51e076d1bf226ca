package buddy_test

import (
	"math"
	"slices"
	"testing"

	"ragpicker/api"
	"ragpicker/buddy"
)

func TestWrongArguments(t *testing.T) {
	asks := script(take(1))
	large := slices.Repeat(asks, api.MaxScript+1)
	cases := []struct {
		name   string
		levels int
		asks   []api.Ask
		want   api.Errno
	}{
		{"below 0", -1, asks, api.ErrRange},
		{"far below 0", math.MinInt, asks, api.ErrRange},
		{"a level too many", api.MaxLevels + 1, asks, api.ErrRange},
		{"as many levels as a word has bits", 64, asks, api.ErrRange},
		{"levels far too many", math.MaxInt, asks, api.ErrRange},
		{"levels that would be some in fewer bits", 1<<32 + 3, asks, api.ErrRange},
		{"no ask, below 0", -1, nil, api.ErrRange},
		{"no ask, a level too many", api.MaxLevels + 1, nil, api.ErrRange},
		{"an ask too many", 3, large, api.ErrLarge},
		{"an ask too many of one word", 0, large, api.ErrLarge},
		{"asks far too many", api.MaxLevels, make([]api.Ask, 100000), api.ErrLarge},
		{"below 0, and asks", -1, large, api.ErrRange},
		{"levels and asks", api.MaxLevels + 1, large, api.ErrRange},
	}
	for _, c := range cases {
		if f, e := buddy.Play(c.levels, c.asks); e != c.want || !isZeroFreed(f) {
			t.Errorf("%s: %v %d, want %d alone", c.name, f, e, c.want)
		}
	}
}

// TestLimitsHold: what is just not too much is taken.
func TestLimitsHold(t *testing.T) {
	for _, levels := range []int{0, 1, api.MaxLevels - 1, api.MaxLevels} {
		for _, n := range []int{0, 1, api.MaxScript - 1, api.MaxScript} {
			asks := slices.Repeat(script(give(0)), n)
			want := api.Freed{Codes: slices.Repeat(codes(api.ErrArg), n), At: make([]int, n), Free: blocks([2]int{0, 1 << levels})}
			holdPlay(t, "limits", levels, asks, want)
		}
	}
}

func TestWrongAsks(t *testing.T) {
	const full, arg, reach, kind = api.ErrFull, api.ErrArg, api.ErrRange, api.ErrKind
	all := blocks([2]int{0, 8})
	cases := []struct {
		name  string
		asks  []api.Ask
		codes []api.Errno
		at    []int
		free  []api.Block
	}{
		{"no words", script(take(0), take(-1), take(math.MinInt)), codes(reach, reach, reach), places(0, 0, 0), all},
		{"more than all", script(take(9), take(16), take(129), take(math.MaxInt)), codes(reach, reach, reach, reach), places(0, 0, 0, 0), all},
		{"more than all, and nothing is free", script(take(8), take(9), take(0), take(8), take(1)), codes(0, reach, reach, full, full), places(0, 0, 0, 0, 0), nil},
		{"one word short", script(take(1), take(5), take(4)), codes(0, full, 0), places(0, 0, 4), blocks([2]int{1, 1}, [2]int{2, 2})},
		{"all words, of which one is taken", script(take(1), take(8)), codes(0, full), places(0, 0), blocks([2]int{1, 1}, [2]int{2, 2}, [2]int{4, 4})},
		{"enough words side by side, but not of one piece", script(take(1), take(4), take(3), take(2)), codes(0, 0, full, 0), places(0, 4, 0, 2), blocks([2]int{1, 1})},
		{"enough words side by side, of two that are no buddies", script(take(2), take(2), take(2), take(2), give(2), give(4), take(4), take(3)), codes(0, 0, 0, 0, 0, 0, full, full), places(0, 2, 4, 6, 0, 0, 0, 0), blocks([2]int{2, 2}, [2]int{4, 2})},
		{"nothing left of a piece that is larger than was asked for", script(take(3), take(3), take(1)), codes(0, 0, full), places(0, 4, 0), nil},
		{"nothing was taken", script(give(0), give(4), give(7)), codes(arg, arg, arg), places(0, 0, 0), all},
		{"nothing was taken there", script(take(3), give(4), give(7)), codes(0, arg, arg), places(0, 0, 0), blocks([2]int{4, 4})},
		{"places that are none", script(take(8), give(-1), give(8), give(128), give(math.MinInt), give(math.MaxInt)), codes(0, arg, arg, arg, arg, arg), places(0, 0, 0, 0, 0, 0), nil},
		{"the midst of what was taken", script(take(2), take(4), give(1), give(5), give(6), give(7)), codes(0, 0, arg, arg, arg, arg), places(0, 4, 0, 0, 0, 0), blocks([2]int{2, 2})},
		{"the midst of a piece, behind the words asked for", script(take(5), give(5), give(4), give(7)), codes(0, arg, arg, arg), places(0, 0, 0, 0), nil},
		{"given back already", script(take(2), take(2), give(0), give(0), give(2), give(2), give(0)), codes(0, 0, 0, arg, 0, arg, arg), places(0, 2, 0, 0, 0, 0, 0), all},
		{"given back, and taken again as part of more", script(take(2), take(2), take(4), give(2), give(0), take(4), give(2), give(0), give(0)), codes(0, 0, 0, 0, 0, 0, arg, 0, arg), places(0, 2, 4, 0, 0, 0, 0, 0, 0), blocks([2]int{0, 4})},
		{"given back twice, taken again between", script(take(8), give(0), take(8), give(0), give(0)), codes(0, 0, 0, 0, arg), places(0, 0, 0, 0, 0), all},
		{"other kinds", script(api.Ask{N: 3}, api.Ask{Kind: -1, N: 3}, api.Ask{Kind: 3, N: 3}, api.Ask{Kind: math.MaxInt, N: 3}, api.Ask{Kind: math.MinInt}, api.Ask{Kind: 1<<32 + api.FTake, N: 3}), codes(kind, kind, kind, kind, kind, kind), places(0, 0, 0, 0, 0, 0), all},
		{"another kind, and a number out of range", script(api.Ask{Kind: 0, N: -1}, api.Ask{Kind: 3, N: 9}), codes(kind, kind), places(0, 0), all},
		{"a wrong one does not end a script", script(api.Ask{}, take(0), give(0), take(3), take(5), take(4)), codes(kind, reach, arg, 0, full, 0), places(0, 0, 0, 0, 0, 4), nil},
		{"a wrong one splits nothing", script(take(4), take(5), take(9), give(4), give(1), api.Ask{Kind: 3, N: 1}), codes(0, full, reach, arg, arg, kind), places(0, 0, 0, 0, 0, 0), blocks([2]int{4, 4})},
	}
	for _, c := range cases {
		holdPlay(t, c.name, 3, c.asks, api.Freed{Codes: c.codes, At: c.at, Free: c.free})
	}
}

func TestWrongAsksOfOneWord(t *testing.T) {
	asks := script(take(0), take(2), give(0), give(1), take(1), take(1), give(1), give(-1), give(0), give(0), api.Ask{Kind: 3})
	want := api.Freed{
		Codes: codes(api.ErrRange, api.ErrRange, api.ErrArg, api.ErrArg, 0, api.ErrFull, api.ErrArg, api.ErrArg, 0, api.ErrArg, api.ErrKind),
		At:    make([]int, len(asks)),
		Free:  blocks([2]int{0, 1}),
	}
	holdPlay(t, "one word", 0, asks, want)
}

func TestScriptsStay(t *testing.T) {
	d := dice(3)
	for range 500 {
		levels, asks := d.play()
		want := slowPlay(levels, asks)
		whole := append(slices.Clone(asks), take(1), give(0), api.Ask{}, take(1<<levels))
		before := slices.Clone(whole)
		given := whole[:len(asks)]
		holdPlay(t, "asks behind the length", levels, given, want)
		f, _ := buddy.Play(levels, given)
		clear(whole)
		if !equalFreed(f, want) {
			t.Fatalf("what is told of %v hangs on it", before)
		}
		copy(whole, before)
		f, _ = buddy.Play(levels, given)
		spoil(f)
		if !slices.Equal(whole, before) {
			t.Fatalf("%v was changed to %v", before, whole)
		}
	}
}

// spoil writes over all lists, up to their capacities.
func spoil(f api.Freed) {
	for i := range f.Codes[:cap(f.Codes)] {
		f.Codes[:cap(f.Codes)][i] = -1
	}
	for i := range f.At[:cap(f.At)] {
		f.At[:cap(f.At)][i] = -1
	}
	clear(f.Free[:cap(f.Free)])
}

func TestAnswersHangOnArgumentsAlone(t *testing.T) {
	d := dice(4)
	for range 500 {
		levels, asks := d.play()
		f, _ := buddy.Play(levels, asks)
		want := cloneFreed(f)
		spoil(f)
		buddy.Play(d.play())
		holdPlay(t, "once more", levels, asks, want)
	}
}
