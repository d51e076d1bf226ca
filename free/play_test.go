package free_test

import (
	"slices"
	"testing"

	"ragpicker/api"
)

func TestExample(t *testing.T) {
	want := api.Freed{Codes: fine(4), At: places(0, 3, 0, 0), Free: blocks([2]int{2, 1}, [2]int{7, 3})}
	holdPlay(t, "example", 10, api.ByFirst, script(take(3), take(4), give(0), take(2)), want)
}

// TestAllFreeAtFirst: no ask tells of all words, at each size.
func TestAllFreeAtFirst(t *testing.T) {
	for size := 1; size <= api.MaxWords; size++ {
		for _, p := range policies {
			all := blocks([2]int{0, size})
			holdPlay(t, "nil", size, p, nil, api.Freed{Free: all})
			holdPlay(t, "no ask", size, p, script(), api.Freed{Free: all})
			holdPlay(t, "all", size, p, script(take(size)), api.Freed{Codes: fine(1), At: places(0)})
			holdPlay(t, "all, and back", size, p, script(take(size), give(0)), api.Freed{Codes: fine(2), At: places(0, 0), Free: all})
			holdPlay(t, "one more than all", size, p, script(take(size+1)), api.Freed{Codes: codes(api.ErrRange), At: places(0), Free: all})
			holdPlay(t, "all twice", size, p, script(take(size), take(1)), api.Freed{Codes: codes(api.OK, api.ErrFull), At: places(0, 0)})
		}
	}
}

// TestEachPolicy has scripts by which all blocks and lengths are the same whichever policy is asked for.
func TestEachPolicy(t *testing.T) {
	cases := []struct {
		name string
		size int
		asks []api.Ask
		at   []int
		free []api.Block
	}{
		{"one behind the other", 10, script(take(1), take(2), take(3)), places(0, 1, 3), blocks([2]int{6, 4})},
		{"up to the last word", 6, script(take(1), take(2), take(3)), places(0, 1, 3), nil},
		{"one word, taken and given in turn", 1, script(take(1), give(0), take(1), give(0), take(1)), places(0, 0, 0, 0, 0), nil},
		{"one word, given at last", 1, script(take(1), give(0), take(1), give(0)), places(0, 0, 0, 0), blocks([2]int{0, 1})},
		{"joined with nothing", 9, script(take(3), take(3), take(3), give(3)), places(0, 3, 6, 0), blocks([2]int{3, 3})},
		{"joined with nothing, the first words", 9, script(take(3), take(3), take(3), give(0)), places(0, 3, 6, 0), blocks([2]int{0, 3})},
		{"joined with nothing, the last words", 9, script(take(3), take(3), take(3), give(6)), places(0, 3, 6, 0), blocks([2]int{6, 3})},
		{"joined with what is free before", 9, script(take(3), take(3), take(3), give(0), give(3)), places(0, 3, 6, 0, 0), blocks([2]int{0, 6})},
		{"joined with what is free behind", 9, script(take(3), take(3), take(3), give(6), give(3)), places(0, 3, 6, 0, 0), blocks([2]int{3, 6})},
		{"joined on both sides", 9, script(take(3), take(3), take(3), give(0), give(6), give(3)), places(0, 3, 6, 0, 0, 0), blocks([2]int{0, 9})},
		{"joined on both sides, others around", 9, script(take(1), take(2), take(3), take(2), take(1), give(1), give(6), give(3)), places(0, 1, 3, 6, 8, 0, 0, 0), blocks([2]int{1, 7})},
		{"joined on both sides, free ones around", 9, script(take(1), take(1), take(1), take(3), take(1), take(1), take(1), give(8), give(0), give(2), give(6), give(3)), places(0, 1, 2, 3, 6, 7, 8, 0, 0, 0, 0, 0), blocks([2]int{0, 1}, [2]int{2, 5}, [2]int{8, 1})},
		{"joined with nothing, free ones around", 5, script(take(1), take(1), take(1), take(1), take(1), give(4), give(0), give(2)), places(0, 1, 2, 3, 4, 0, 0, 0), blocks([2]int{0, 1}, [2]int{2, 1}, [2]int{4, 1})},
		{"joined with the rest", 9, script(take(3), take(3), give(3)), places(0, 3, 0), blocks([2]int{3, 6})},
		{"what was joined is taken as one", 9, script(take(3), take(3), take(3), give(3), give(0), take(6)), places(0, 3, 6, 0, 0, 0), nil},
		{"what was joined is given as one", 9, script(take(3), take(3), take(3), give(3), give(0), take(6), give(6), give(0)), places(0, 3, 6, 0, 0, 0, 0, 0), blocks([2]int{0, 9})},
		{"the same place, fewer words", 4, script(take(4), give(0), take(1), take(3), give(1), give(0)), places(0, 0, 0, 1, 0, 0), blocks([2]int{0, 4})},
		{"the same place, more words", 6, script(take(2), take(2), take(2), give(2), give(4), take(4), give(2)), places(0, 2, 4, 0, 0, 2, 0), blocks([2]int{2, 4})},
	}
	for _, c := range cases {
		for _, p := range policies {
			holdPlay(t, c.name, c.size, p, c.asks, api.Freed{Codes: fine(len(c.asks)), At: c.at, Free: c.free})
		}
	}
}

// holes takes all of 22 words, and gives some back, so that there are blocks of 3, 2, 5, 2 and 5 words at 1, 5, 8, 14 and 17.
func holes(then ...api.Ask) []api.Ask {
	asks := script(take(1), take(3), take(1), take(2), take(1), take(5), take(1), take(2), take(1), take(5))
	return slices.Concat(asks, script(give(1), give(5), give(8), give(14), give(17)), then)
}

// TestHoles: in the same holes each policy takes others.
func TestHoles(t *testing.T) {
	cases := []struct {
		name   string
		policy int
		asks   []api.Ask
		at     []int
		free   []api.Block
	}{
		{"the first that has as many", api.ByFirst, script(take(2), take(2), take(2)), places(1, 5, 8), blocks([2]int{3, 1}, [2]int{10, 3}, [2]int{14, 2}, [2]int{17, 5})},
		{"the first that has as many, not the first of all", api.ByFirst, script(take(4), take(1), take(5)), places(8, 1, 17), blocks([2]int{2, 2}, [2]int{5, 2}, [2]int{12, 1}, [2]int{14, 2})},
		{"the first of two shortest", api.ByBest, script(take(1), take(1), take(2)), places(5, 6, 14), blocks([2]int{1, 3}, [2]int{8, 5}, [2]int{17, 5})},
		{"the shortest that has as many, not the shortest of all", api.ByBest, script(take(3), take(3)), places(1, 8), blocks([2]int{5, 2}, [2]int{11, 2}, [2]int{14, 2}, [2]int{17, 5})},
		{"the first of two longest", api.ByWorst, script(take(1), take(1), take(1), take(1)), places(8, 17, 9, 18), blocks([2]int{1, 3}, [2]int{5, 2}, [2]int{10, 3}, [2]int{14, 2}, [2]int{19, 3})},
		{"the longest, though others would do", api.ByWorst, script(take(2), take(3), take(3)), places(8, 17, 1), blocks([2]int{5, 2}, [2]int{10, 3}, [2]int{14, 2}, [2]int{20, 2})},
		{"nothing behind the last word", api.ByNext, script(take(2), take(2), take(2)), places(1, 5, 8), blocks([2]int{3, 1}, [2]int{10, 3}, [2]int{14, 2}, [2]int{17, 5})},
		{"on from where the last ones end", api.ByNext, script(take(4), take(1), take(2), take(3)), places(8, 12, 14, 17), blocks([2]int{1, 3}, [2]int{5, 2}, [2]int{20, 2})},
		{"round again", api.ByNext, script(take(5), take(5), take(1), take(2)), places(8, 17, 1, 2), blocks([2]int{5, 2}, [2]int{14, 2})},
	}
	first := places(0, 1, 4, 5, 7, 8, 13, 14, 16, 17, 0, 0, 0, 0, 0)
	for _, c := range cases {
		asks := holes(c.asks...)
		want := api.Freed{Codes: fine(len(asks)), At: slices.Concat(first, c.at), Free: c.free}
		holdPlay(t, c.name, 22, c.policy, asks, want)
	}
}

// TestPoliciesDiffer: the first block is neither the shortest nor the longest one, nor the one where the last words end.
func TestPoliciesDiffer(t *testing.T) {
	asks := script(take(2), take(1), take(1), take(1), take(4), take(2), take(1), give(0), give(3), give(5), take(1))
	cases := []struct {
		policy, at int
		free       []api.Block
	}{
		{api.ByFirst, 0, blocks([2]int{1, 1}, [2]int{3, 1}, [2]int{5, 4}, [2]int{12, 3})},
		{api.ByBest, 3, blocks([2]int{0, 2}, [2]int{5, 4}, [2]int{12, 3})},
		{api.ByNext, 12, blocks([2]int{0, 2}, [2]int{3, 1}, [2]int{5, 4}, [2]int{13, 2})},
		{api.ByWorst, 5, blocks([2]int{0, 2}, [2]int{3, 1}, [2]int{6, 3}, [2]int{12, 3})},
	}
	for _, c := range cases {
		at := places(0, 2, 3, 4, 5, 9, 11, 0, 0, 0, c.at)
		holdPlay(t, "four blocks", 15, c.policy, asks, api.Freed{Codes: fine(len(asks)), At: at, Free: c.free})
	}
}

func TestByNext(t *testing.T) {
	cases := []struct {
		name string
		size int
		asks []api.Ask
		at   []int
		free []api.Block
	}{
		{"nothing taken so far", 4, script(take(2)), places(0), blocks([2]int{2, 2})},
		{"where they end, though there is room before", 9, script(take(3), take(3), give(0), take(1)), places(0, 3, 0, 6), blocks([2]int{0, 3}, [2]int{7, 2})},
		{"behind where they end, though there is room before", 9, script(take(2), take(2), take(2), take(3), give(6), give(0), take(1), take(1), give(0), take(1)), places(0, 2, 4, 6, 0, 0, 0, 1, 0, 6), blocks([2]int{0, 1}, [2]int{7, 2})},
		{"behind, but not the first one there", 10, script(take(3), take(1), take(1), take(1), take(4), give(0), give(4), give(6), take(1), give(0), take(2)), places(0, 3, 4, 5, 6, 0, 0, 0, 0, 0, 6), blocks([2]int{0, 3}, [2]int{4, 1}, [2]int{8, 2})},
		{"none behind has as many: the first one", 9, script(take(4), take(3), give(0), take(3)), places(0, 4, 0, 0), blocks([2]int{3, 1}, [2]int{7, 2})},
		{"none behind has as many: the first one that has", 9, script(take(1), take(1), take(4), take(2), give(0), give(2), take(3)), places(0, 1, 2, 6, 0, 0, 2), blocks([2]int{0, 1}, [2]int{5, 1}, [2]int{8, 1})},
		{"nothing is free behind", 6, script(take(2), take(4), give(0), take(1), take(1)), places(0, 2, 0, 0, 1), nil},
		{"in the midst of a block, another one behind it", 12, script(take(2), take(2), take(2), take(6), give(2), give(6), take(1), give(2), take(1)), places(0, 2, 4, 6, 0, 0, 2, 0, 6), blocks([2]int{2, 2}, [2]int{7, 5})},
		{"in the midst of the only block", 9, script(take(3), take(3), give(3), take(2)), places(0, 3, 0, 3), blocks([2]int{5, 4})},
		{"in the midst of all words", 9, script(take(3), give(0), take(2), give(0), take(9)), places(0, 0, 0, 0, 0), nil},
		{"where a block ends", 9, script(take(3), take(3), take(3), give(3), take(3), give(3), give(0), take(1)), places(0, 3, 6, 0, 3, 0, 0, 0), blocks([2]int{1, 5})},
		{"given back, and still the last ones", 6, script(take(2), take(2), take(2), give(0), give(2), give(4), take(6), give(0), take(1)), places(0, 2, 4, 0, 0, 0, 0, 0, 0), blocks([2]int{1, 5})},
	}
	for _, c := range cases {
		holdPlay(t, c.name, c.size, api.ByNext, c.asks, api.Freed{Codes: fine(len(c.asks)), At: c.at, Free: c.free})
	}
}

func TestLongScripts(t *testing.T) {
	takes := slices.Repeat(script(take(1)), api.MaxScript)
	var upTo, gives []int
	for n := range api.MaxScript {
		upTo, gives = append(upTo, n), append(gives, 0)
	}
	half := api.MaxScript / 2
	var back []api.Ask
	for n := range half {
		back = append(back, give(n))
	}
	for _, p := range policies {
		holdPlay(t, "one by one", api.MaxWords, p, takes, api.Freed{Codes: fine(api.MaxScript), At: upTo, Free: blocks([2]int{api.MaxScript, api.MaxWords - api.MaxScript})})
		full := slices.Concat(fine(half), slices.Repeat(codes(api.ErrFull), half))
		holdPlay(t, "more than there are", half, p, takes, api.Freed{Codes: full, At: slices.Concat(upTo[:half], gives[half:])})
		all := api.Freed{Codes: fine(2 * half), At: slices.Concat(upTo[:half], gives[half:]), Free: blocks([2]int{0, half})}
		holdPlay(t, "all back, by place", half, p, slices.Concat(takes[:half], back), all)
		slices.Reverse(back)
		holdPlay(t, "all back, the last one first", half, p, slices.Concat(takes[:half], back), all)
		turns := slices.Repeat(script(take(api.MaxWords), give(0)), half)
		holdPlay(t, "all words in turn", api.MaxWords, p, turns, api.Freed{Codes: fine(2 * half), At: gives, Free: blocks([2]int{0, api.MaxWords})})
	}
}

// TestManyBlocks: each second one of many taken words is free in the end.
func TestManyBlocks(t *testing.T) {
	var asks []api.Ask
	var at []int
	var free []api.Block
	const n, long = 66, 3
	for i := range n {
		asks, at = append(asks, take(long)), append(at, long*i)
	}
	for i := 0; i < n; i += 2 {
		asks, at = append(asks, give(long*i)), append(at, 0)
		free = append(free, api.Block{At: long * i, Len: long})
	}
	free = append(free, api.Block{At: long * n, Len: api.MaxWords - long*n})
	for _, p := range policies {
		holdPlay(t, "each second one", api.MaxWords, p, asks, api.Freed{Codes: fine(len(asks)), At: at, Free: free})
	}
}
