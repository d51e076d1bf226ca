package free_test

import (
	"math"
	"slices"
	"testing"

	"ragpicker/api"
	"ragpicker/free"
)

func TestWrongArguments(t *testing.T) {
	asks := script(take(1))
	large := slices.Repeat(asks, api.MaxScript+1)
	cases := []struct {
		name         string
		size, policy int
		asks         []api.Ask
		want         api.Errno
	}{
		{"no word", 0, api.ByFirst, asks, api.ErrRange},
		{"below 0", -1, api.ByFirst, asks, api.ErrRange},
		{"far below 0", math.MinInt, api.ByFirst, asks, api.ErrRange},
		{"a word too many", api.MaxWords + 1, api.ByFirst, asks, api.ErrRange},
		{"words far too many", math.MaxInt, api.ByFirst, asks, api.ErrRange},
		{"no ask, no word", 0, api.ByWorst, nil, api.ErrRange},
		{"policy 0", 10, 0, asks, api.ErrKind},
		{"policy 5", 10, 5, asks, api.ErrKind},
		{"policy -1", 10, -1, asks, api.ErrKind},
		{"a policy far below", 10, math.MinInt, asks, api.ErrKind},
		{"a policy far above", 10, math.MaxInt, asks, api.ErrKind},
		{"a policy that would be one in fewer bits", 10, 1<<32 + api.ByFirst, asks, api.ErrKind},
		{"no ask, no policy", 10, 0, nil, api.ErrKind},
		{"an ask too many", 10, api.ByFirst, large, api.ErrLarge},
		{"asks far too many", 10, api.ByNext, make([]api.Ask, 100000), api.ErrLarge},
		{"size and policy", 0, 0, asks, api.ErrRange},
		{"size and asks", api.MaxWords + 1, api.ByFirst, large, api.ErrRange},
		{"policy and asks", 10, 5, large, api.ErrKind},
		{"all three", -1, 9, large, api.ErrRange},
	}
	for _, c := range cases {
		if f, e := free.Play(c.size, c.policy, c.asks); e != c.want || !isZeroFreed(f) {
			t.Errorf("%s: %v %d, want %d alone", c.name, f, e, c.want)
		}
	}
}

// TestLimitsHold: what is just not too much is taken.
func TestLimitsHold(t *testing.T) {
	for _, p := range policies {
		for _, size := range []int{1, 2, api.MaxWords - 1, api.MaxWords} {
			for _, n := range []int{0, 1, api.MaxScript - 1, api.MaxScript} {
				asks := slices.Repeat(script(give(0)), n)
				want := api.Freed{Codes: slices.Repeat(codes(api.ErrArg), n), At: make([]int, n), Free: blocks([2]int{0, size})}
				holdPlay(t, "limits", size, p, asks, want)
			}
		}
	}
}

func TestWrongAsks(t *testing.T) {
	const full, arg, reach, kind = api.ErrFull, api.ErrArg, api.ErrRange, api.ErrKind
	cases := []struct {
		name  string
		asks  []api.Ask
		codes []api.Errno
		at    []int
		free  []api.Block
	}{
		{"no words", script(take(0), take(-1), take(math.MinInt)), codes(reach, reach, reach), places(0, 0, 0), blocks([2]int{0, 10})},
		{"more than size", script(take(11), take(257), take(math.MaxInt)), codes(reach, reach, reach), places(0, 0, 0), blocks([2]int{0, 10})},
		{"more than size, and nothing is free", script(take(10), take(11), take(0), take(10), take(1)), codes(api.OK, reach, reach, full, full), places(0, 0, 0, 0, 0), nil},
		{"one word short", script(take(3), take(8), take(7)), codes(api.OK, full, api.OK), places(0, 0, 3), nil},
		{"enough words, but not side by side", script(take(2), take(2), take(2), take(4), give(0), give(4), take(3), take(4)), codes(0, 0, 0, 0, 0, 0, full, full), places(0, 2, 4, 6, 0, 0, 0, 0), blocks([2]int{0, 2}, [2]int{4, 2})},
		{"nothing was taken", script(give(0), give(5), give(9)), codes(arg, arg, arg), places(0, 0, 0), blocks([2]int{0, 10})},
		{"nothing was taken there", script(take(3), give(3), give(9)), codes(api.OK, arg, arg), places(0, 0, 0), blocks([2]int{3, 7})},
		{"places that are none", script(take(10), give(-1), give(10), give(256), give(math.MinInt), give(math.MaxInt)), codes(api.OK, arg, arg, arg, arg, arg), places(0, 0, 0, 0, 0, 0), nil},
		{"the midst of what was taken", script(take(2), take(4), give(1), give(3), give(4), give(5)), codes(0, 0, arg, arg, arg, arg), places(0, 2, 0, 0, 0, 0), blocks([2]int{6, 4})},
		{"given back already", script(take(2), take(2), give(0), give(0), give(2), give(2), give(0)), codes(0, 0, 0, arg, 0, arg, arg), places(0, 2, 0, 0, 0, 0, 0), blocks([2]int{0, 10})},
		{"given back, and taken again as part of more", script(take(2), take(2), take(6), give(2), give(0), take(4), give(2), give(0), give(0)), codes(0, 0, 0, 0, 0, 0, arg, 0, arg), places(0, 2, 4, 0, 0, 0, 0, 0, 0), blocks([2]int{0, 4})},
		{"given back twice, taken again between", script(take(10), give(0), take(10), give(0), give(0)), codes(0, 0, 0, 0, arg), places(0, 0, 0, 0, 0), blocks([2]int{0, 10})},
		{"other kinds", script(api.Ask{N: 3}, api.Ask{Kind: -1, N: 3}, api.Ask{Kind: 3, N: 3}, api.Ask{Kind: math.MaxInt, N: 3}, api.Ask{Kind: math.MinInt}, api.Ask{Kind: 1<<32 + api.FTake, N: 3}), codes(kind, kind, kind, kind, kind, kind), places(0, 0, 0, 0, 0, 0), blocks([2]int{0, 10})},
		{"another kind, and a number out of range", script(api.Ask{Kind: 0, N: -1}, api.Ask{Kind: 3, N: 11}), codes(kind, kind), places(0, 0), blocks([2]int{0, 10})},
		{"a wrong one does not end a script", script(api.Ask{}, take(0), give(0), take(4), take(7), take(6)), codes(kind, reach, arg, 0, full, 0), places(0, 0, 0, 0, 0, 4), nil},
	}
	for _, c := range cases {
		for _, p := range policies {
			holdPlay(t, c.name, 10, p, c.asks, api.Freed{Codes: c.codes, At: c.at, Free: c.free})
		}
	}
}

// TestWrongAsksMoveNothing: where the last words end is told by what was taken alone.
func TestWrongAsksMoveNothing(t *testing.T) {
	first := script(take(2), take(2), take(5), give(0), give(4), take(1))
	wrong := script(take(9), take(8), take(10), take(0), give(1), give(4), api.Ask{Kind: 3, N: 4})
	want := api.Freed{
		Codes: slices.Concat(fine(6), codes(api.ErrFull, api.ErrFull, api.ErrRange, api.ErrRange, api.ErrArg, api.ErrArg, api.ErrKind), fine(2)),
		At:    slices.Concat(places(0, 2, 4, 0, 0, 0), make([]int, 7), places(1, 4)),
		Free:  blocks([2]int{5, 4}),
	}
	holdPlay(t, "wrong asks between", 9, api.ByNext, slices.Concat(first, wrong, script(take(1), take(1))), want)
}

func TestScriptsStay(t *testing.T) {
	d := dice(3)
	for range 500 {
		size, policy, asks := d.play()
		want := slowPlay(size, policy, asks)
		whole := append(slices.Clone(asks), take(1), give(0), api.Ask{}, take(size))
		before := slices.Clone(whole)
		given := whole[:len(asks)]
		holdPlay(t, "asks behind the length", size, policy, given, want)
		f, _ := free.Play(size, policy, given)
		clear(whole)
		if !equalFreed(f, want) {
			t.Fatalf("what is told of %v hangs on it", before)
		}
		copy(whole, before)
		f, _ = free.Play(size, policy, given)
		spoil(f)
		if !slices.Equal(whole, before) {
			t.Fatalf("%v was changed to %v", before, whole)
		}
	}
}

// spoil writes over all lists, up to their capacities.
func spoil(f api.Freed) {
	for i := range f.Codes[:cap(f.Codes)] {
		f.Codes[:cap(f.Codes)][i] = -1
	}
	for i := range f.At[:cap(f.At)] {
		f.At[:cap(f.At)][i] = -1
	}
	clear(f.Free[:cap(f.Free)])
}

func TestAnswersHangOnArgumentsAlone(t *testing.T) {
	d := dice(4)
	for range 500 {
		size, policy, asks := d.play()
		f, _ := free.Play(size, policy, asks)
		want := cloneFreed(f)
		spoil(f)
		free.Play(d.play())
		holdPlay(t, "once more", size, policy, asks, want)
	}
}
