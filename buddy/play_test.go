package buddy_test

import (
	"slices"
	"testing"

	"ragpicker/api"
)

func TestExample(t *testing.T) {
	want := api.Freed{Codes: fine(2), At: places(0, 4), Free: blocks([2]int{5, 1}, [2]int{6, 2})}
	holdPlay(t, "example", 3, script(take(3), take(1)), want)
}

// TestAllFreeAtFirst: no ask tells of one piece of all words, at each level.
func TestAllFreeAtFirst(t *testing.T) {
	for levels := range api.MaxLevels + 1 {
		size := 1 << levels
		all := blocks([2]int{0, size})
		holdPlay(t, "nil", levels, nil, api.Freed{Free: all})
		holdPlay(t, "no ask", levels, script(), api.Freed{Free: all})
		holdPlay(t, "all", levels, script(take(size)), api.Freed{Codes: fine(1), At: places(0)})
		holdPlay(t, "all, and back", levels, script(take(size), give(0)), api.Freed{Codes: fine(2), At: places(0, 0), Free: all})
		holdPlay(t, "one, and back", levels, script(take(1), give(0)), api.Freed{Codes: fine(2), At: places(0, 0), Free: all})
		holdPlay(t, "one more than all", levels, script(take(size+1)), api.Freed{Codes: codes(api.ErrRange), At: places(0), Free: all})
		holdPlay(t, "all twice", levels, script(take(size), take(1)), api.Freed{Codes: codes(api.OK, api.ErrFull), At: places(0, 0)})
	}
}

// upper tells what is left free of so many words when the first piece of this size is taken: halves, each twice as large as the one ahead of it.
func upper(size, words int) (list []api.Block) {
	for ; size < words; size *= 2 {
		list = append(list, api.Block{At: size, Len: size})
	}
	return list
}

// TestEachNumberOfWords: the piece that is taken is the least that has as many, at each level.
func TestEachNumberOfWords(t *testing.T) {
	for levels := range api.MaxLevels + 1 {
		words := 1 << levels
		for size, from := 1, 1; size <= words; size, from = size*2, size+1 {
			for n := from; n <= size; n++ {
				holdPlay(t, "one", levels, script(take(n)), api.Freed{Codes: fine(1), At: places(0), Free: upper(size, words)})
				if size < words {
					holdPlay(t, "two", levels, script(take(n), take(n)), api.Freed{Codes: fine(2), At: places(0, size), Free: upper(2*size, words)})
				}
				holdPlay(t, "given back", levels, script(take(n), give(0)), api.Freed{Codes: fine(2), At: places(0, 0), Free: blocks([2]int{0, words})})
			}
		}
	}
}

func TestTakes(t *testing.T) {
	cases := []struct {
		name   string
		levels int
		asks   []api.Ask
		at     []int
		free   []api.Block
	}{
		{"the only word", 0, script(take(1)), places(0), nil},
		{"one of two", 1, script(take(1)), places(0), blocks([2]int{1, 1})},
		{"both", 1, script(take(1), take(1)), places(0, 1), nil},
		{"split more than once", 4, script(take(1)), places(0), blocks([2]int{1, 1}, [2]int{2, 2}, [2]int{4, 4}, [2]int{8, 8})},
		{"split up to the last level", 7, script(take(1)), places(0), blocks([2]int{1, 1}, [2]int{2, 2}, [2]int{4, 4}, [2]int{8, 8}, [2]int{16, 16}, [2]int{32, 32}, [2]int{64, 64})},
		{"a power of two", 4, script(take(4)), places(0), blocks([2]int{4, 4}, [2]int{8, 8})},
		{"one less", 4, script(take(3)), places(0), blocks([2]int{4, 4}, [2]int{8, 8})},
		{"one more", 4, script(take(5)), places(0), blocks([2]int{8, 8})},
		{"just above a half is all", 4, script(take(9)), places(0), nil},
		{"just a half", 7, script(take(64), take(64)), places(0, 64), nil},
		{"one behind the other", 3, script(take(1), take(2), take(4), take(1)), places(0, 2, 4, 1), nil},
		{"in what was left of a split, though there is more behind", 4, script(take(1), take(1), take(1), take(1)), places(0, 1, 2, 3), blocks([2]int{4, 4}, [2]int{8, 8})},
		{"past what is too small", 4, script(take(1), take(3), take(2), take(8)), places(0, 4, 2, 8), blocks([2]int{1, 1})},
		{"the smallest, behind a larger one", 3, script(take(4), take(1), give(0), take(1)), places(0, 4, 0, 5), blocks([2]int{0, 4}, [2]int{6, 2})},
		{"the smallest that has as many, behind a larger one", 3, script(take(4), take(1), give(0), take(2)), places(0, 4, 0, 6), blocks([2]int{0, 4}, [2]int{5, 1})},
		{"the larger one ahead, as the smaller ones are too small", 3, script(take(4), take(1), give(0), take(3)), places(0, 4, 0, 0), blocks([2]int{5, 1}, [2]int{6, 2})},
		{"the larger one ahead, when the smaller ones are taken", 3, script(take(4), take(1), give(0), take(1), take(2), take(1)), places(0, 4, 0, 5, 6, 0), blocks([2]int{1, 1}, [2]int{2, 2})},
		{"of two equal ones the first", 3, script(take(2), take(2), take(2), take(2), give(2), give(4), take(2)), places(0, 2, 4, 6, 0, 0, 2), blocks([2]int{4, 2})},
		{"of two equal ones the first, not the one given first", 3, script(take(2), take(2), take(2), take(2), give(4), give(2), take(2)), places(0, 2, 4, 6, 0, 0, 2), blocks([2]int{4, 2})},
		{"of two equal ones the first is split", 3, script(take(2), take(2), take(2), take(2), give(6), give(0), take(1)), places(0, 2, 4, 6, 0, 0, 0), blocks([2]int{1, 1}, [2]int{6, 2})},
		{"of four equal ones the first, then the next", 3, script(take(1), take(1), take(1), take(1), take(1), take(1), take(1), take(1), give(7), give(3), give(4), give(1), take(1), take(1), take(1), take(1)), places(0, 1, 2, 3, 4, 5, 6, 7, 0, 0, 0, 0, 1, 3, 4, 7), nil},
		{"the lower half of a piece that is not the first", 4, script(take(8), take(3)), places(0, 8), blocks([2]int{12, 4})},
		{"split more than once, in the upper half", 4, script(take(8), take(1)), places(0, 8), blocks([2]int{9, 1}, [2]int{10, 2}, [2]int{12, 4})},
	}
	for _, c := range cases {
		holdPlay(t, c.name, c.levels, c.asks, api.Freed{Codes: fine(len(c.asks)), At: c.at, Free: c.free})
	}
}

func TestGives(t *testing.T) {
	cases := []struct {
		name   string
		levels int
		asks   []api.Ask
		at     []int
		free   []api.Block
	}{
		{"the only word", 0, script(take(1), give(0)), places(0, 0), blocks([2]int{0, 1})},
		{"the only word, in turn", 0, script(take(1), give(0), take(1), give(0), take(1)), places(0, 0, 0, 0, 0), nil},
		{"the buddy is taken", 3, script(take(4), take(4), give(0)), places(0, 4, 0), blocks([2]int{0, 4})},
		{"the buddy is taken, the upper one is given", 3, script(take(4), take(4), give(4)), places(0, 4, 0), blocks([2]int{4, 4})},
		{"the upper one is given first", 3, script(take(4), take(4), give(4), give(0)), places(0, 4, 0, 0), blocks([2]int{0, 8})},
		{"the lower one is given first", 3, script(take(4), take(4), give(0), give(4)), places(0, 4, 0, 0), blocks([2]int{0, 8})},
		{"one with its buddy once", 3, script(take(2), take(2), take(4), give(0), give(2)), places(0, 2, 4, 0, 0), blocks([2]int{0, 4})},
		{"one with its buddy once, in the upper half", 3, script(take(4), take(2), take(2), give(6), give(4)), places(0, 4, 6, 0, 0), blocks([2]int{4, 4})},
		{"one with its buddy twice", 4, script(take(1), take(8), give(0)), places(0, 8, 0), blocks([2]int{0, 8})},
		{"several times in a row, up to all words", 7, script(take(1), give(0)), places(0, 0), blocks([2]int{0, 128})},
		{"several times in a row, now the upper one, now the lower one", 3, script(take(1), take(1), take(1), take(4), give(1), give(0), give(4), give(2)), places(0, 1, 2, 4, 0, 0, 0, 0), blocks([2]int{0, 8})},
		{"several times in a row, from the last word on", 2, script(take(1), take(1), take(1), take(1), give(0), give(1), give(2), give(3)), places(0, 1, 2, 3, 0, 0, 0, 0), blocks([2]int{0, 4})},
		{"a neighbour that is no buddy", 3, script(take(2), take(2), take(2), take(2), give(2), give(4)), places(0, 2, 4, 6, 0, 0), blocks([2]int{2, 2}, [2]int{4, 2})},
		{"a neighbour that is no buddy, given first", 3, script(take(2), take(2), take(2), take(2), give(4), give(2)), places(0, 2, 4, 6, 0, 0), blocks([2]int{2, 2}, [2]int{4, 2})},
		{"a neighbour that is no buddy, single words", 2, script(take(1), take(1), take(1), take(1), give(1), give(2)), places(0, 1, 2, 3, 0, 0), blocks([2]int{1, 1}, [2]int{2, 1})},
		{"no buddy now, but then", 2, script(take(1), take(1), take(1), take(1), give(1), give(2), give(0), give(3)), places(0, 1, 2, 3, 0, 0, 0, 0), blocks([2]int{0, 4})},
		{"the buddy's first half alone is free", 3, script(take(4), take(2), take(2), give(4), give(0)), places(0, 4, 6, 0, 0), blocks([2]int{0, 4}, [2]int{4, 2})},
		{"the buddy's second half alone is free", 3, script(take(4), take(2), take(2), give(6), give(0)), places(0, 4, 6, 0, 0), blocks([2]int{0, 4}, [2]int{6, 2})},
		{"the lower buddy's first half alone is free", 3, script(take(2), take(2), take(4), give(0), give(4)), places(0, 2, 4, 0, 0), blocks([2]int{0, 2}, [2]int{4, 4})},
		{"the lower buddy's second half alone is free", 3, script(take(2), take(2), take(4), give(2), give(4)), places(0, 2, 4, 0, 0), blocks([2]int{2, 2}, [2]int{4, 4})},
		{"the buddy's other half comes free", 3, script(take(4), take(2), take(2), give(4), give(0), give(6)), places(0, 4, 6, 0, 0, 0), blocks([2]int{0, 8})},
		{"a part of the buddy stays, though it was one once", 3, script(take(4), take(4), give(4), take(1), give(0)), places(0, 4, 0, 4, 0), blocks([2]int{0, 4}, [2]int{5, 1}, [2]int{6, 2})},
		{"what became one is taken as one", 3, script(take(2), take(2), take(4), give(2), give(0), take(4)), places(0, 2, 4, 0, 0, 0), nil},
		{"what became one is given as one", 3, script(take(2), take(2), take(4), give(2), give(0), take(3), give(0)), places(0, 2, 4, 0, 0, 0, 0), blocks([2]int{0, 4})},
		{"the whole piece, not the words asked for", 3, script(take(3), take(4), give(0)), places(0, 4, 0), blocks([2]int{0, 4})},
		{"the same place, a smaller piece", 3, script(take(8), give(0), take(1), take(4), give(0)), places(0, 0, 0, 4, 0), blocks([2]int{0, 4})},
		{"the same place, a larger piece", 3, script(take(1), give(0), take(8), give(0), take(4), give(0)), places(0, 0, 0, 0, 0, 0), blocks([2]int{0, 8})},
		{"the same place behind others, of several sizes", 3, script(take(4), take(2), give(4), take(4), give(4), take(1)), places(0, 4, 0, 4, 0, 4), blocks([2]int{5, 1}, [2]int{6, 2})},
		{"by place, not by size", 3, script(take(1), take(1), take(1), take(1), take(1), take(1), take(1), take(1), give(7), give(4), give(2), give(1), give(0)), places(0, 1, 2, 3, 4, 5, 6, 7, 0, 0, 0, 0, 0), blocks([2]int{0, 2}, [2]int{2, 1}, [2]int{4, 1}, [2]int{7, 1})},
		{"by place, the large ones first", 4, script(take(8), take(4), take(2), take(1), give(0)), places(0, 8, 12, 14, 0), blocks([2]int{0, 8}, [2]int{15, 1})},
	}
	for _, c := range cases {
		holdPlay(t, c.name, c.levels, c.asks, api.Freed{Codes: fine(len(c.asks)), At: c.at, Free: c.free})
	}
}

func TestLongScripts(t *testing.T) {
	const levels, words = api.MaxLevels, 1 << api.MaxLevels
	takes := slices.Repeat(script(take(1)), api.MaxScript)
	var upTo []int
	for n := range api.MaxScript {
		upTo = append(upTo, n)
	}
	none := make([]int, api.MaxScript)
	rest := blocks([2]int{100, 4}, [2]int{104, 8}, [2]int{112, 16})
	holdPlay(t, "one by one", levels, takes, api.Freed{Codes: fine(api.MaxScript), At: upTo, Free: rest})
	full := slices.Concat(fine(64), slices.Repeat(codes(api.ErrFull), api.MaxScript-64))
	holdPlay(t, "more than there are", 6, takes, api.Freed{Codes: full, At: slices.Concat(upTo[:64], none[64:])})
	const half = api.MaxScript / 2
	var back []api.Ask
	for n := range half {
		back = append(back, give(n))
	}
	all := api.Freed{Codes: fine(2 * half), At: slices.Concat(upTo[:half], none[half:]), Free: blocks([2]int{0, words})}
	holdPlay(t, "all back, by place", levels, slices.Concat(takes[:half], back), all)
	slices.Reverse(back)
	holdPlay(t, "all back, the last one first", levels, slices.Concat(takes[:half], back), all)
	for l := range levels + 1 {
		turns := slices.Repeat(script(take(1<<l), give(0)), half)
		holdPlay(t, "all words in turn", l, turns, api.Freed{Codes: fine(2 * half), At: none, Free: blocks([2]int{0, 1 << l})})
	}
}

// TestManyPieces: each second one of many pieces is free in the end, first the lower buddies, then the upper ones.
func TestManyPieces(t *testing.T) {
	const n, long = 64, 2
	for from := range 2 {
		var asks []api.Ask
		var at []int
		var free []api.Block
		for i := range n {
			asks, at = append(asks, take(long)), append(at, long*i)
		}
		for i := from; i < n; i += 2 {
			asks, at = append(asks, give(long*i)), append(at, 0)
			free = append(free, api.Block{At: long * i, Len: long})
		}
		holdPlay(t, "each second one", api.MaxLevels, asks, api.Freed{Codes: fine(len(asks)), At: at, Free: free})
	}
}
