package buddy_test

import (
	"slices"
	"testing"

	"ragpicker/api"
	"ragpicker/buddy"
)

func TestAllSmallScripts(t *testing.T) {
	for _, c := range []struct{ levels, most int }{{0, 6}, {1, 6}, {2, 5}, {3, 4}} {
		for asks := range smallScripts(someAsks(1<<c.levels), c.most) {
			holdPlay(t, "small", c.levels, asks, slowPlay(c.levels, asks))
		}
	}
}

// TestAllSmallestPieces: whichever of the single words are given back, and in whichever of two orders, the free pieces are the same, and so is what is taken next.
func TestAllSmallestPieces(t *testing.T) {
	const levels, size = 3, 8
	for set := range 1 << size {
		asks := slices.Repeat(script(take(1)), size)
		var back []api.Ask
		for at := range size {
			if set>>at&1 == 1 {
				back = append(back, give(at))
			}
		}
		for n := 1; n <= size; n++ {
			up := slices.Concat(asks, back, script(take(n)))
			holdPlay(t, "given by place", levels, up, slowPlay(levels, up))
			slices.Reverse(back)
			down := slices.Concat(asks, back, script(take(n)))
			holdPlay(t, "given the last one first", levels, down, slowPlay(levels, down))
		}
	}
}

// TestManyScripts holds thrown scripts against the chapter's words, and looks whether there is enough of each kind among them.
func TestManyScripts(t *testing.T) {
	d := dice(1)
	seen := map[api.Errno]int{}
	crowded := 0
	for range 10000 {
		levels, asks := d.play()
		want := slowPlay(levels, asks)
		holdPlay(t, "thrown", levels, asks, want)
		for _, e := range want.Codes {
			seen[e]++
		}
		if len(want.Free) >= 5 {
			crowded++
		}
	}
	if len(seen) != 5 || min(seen[api.OK], seen[api.ErrArg], seen[api.ErrRange], seen[api.ErrKind], seen[api.ErrFull]) < 500 {
		t.Errorf("too few of a kind: %v", seen)
	}
	if crowded < 1000 {
		t.Errorf("%d have many pieces", crowded)
	}
}

// TestWordsAreTakenOnce asks nothing but the answers: each piece that is taken was free, and begins at a multiple of its size; what is free in the end is all the rest, as pieces by place, no two of them buddies.
func TestWordsAreTakenOnce(t *testing.T) {
	d := dice(2)
	for range 5000 {
		levels, asks := d.play()
		f, e := buddy.Play(levels, asks)
		if e != api.OK || len(f.Codes) != len(asks) || len(f.At) != len(asks) {
			t.Fatalf("Play(%d, %v): %v %d", levels, asks, f, e)
		}
		used, long := make([]bool, 1<<levels), map[int]int{}
		for i, a := range asks {
			switch {
			case f.Codes[i] != api.OK:
			case a.Kind == api.FTake:
				at, n := f.At[i], needs(a.N)
				if at%n != 0 || slices.Contains(used[at:at+n], true) {
					t.Fatalf("Play(%d, %v): %v: ask %d takes at %d", levels, asks, f, i, at)
				}
				fill(used[at:at+n], true)
				long[at] = n
			case a.Kind == api.FGive:
				fill(used[a.N:a.N+long[a.N]], false)
			}
			if f.At[i] != 0 && (f.Codes[i] != api.OK || a.Kind != api.FTake) {
				t.Fatalf("Play(%d, %v): %v: ask %d takes nothing", levels, asks, f, i)
			}
		}
		holdFree(t, levels, used, f.Free)
	}
}

// holdFree looks whether some pieces may be the free ones, where these words are used.
func holdFree(t *testing.T, levels int, used []bool, list []api.Block) {
	t.Helper()
	end := 0
	for i, b := range list {
		if b.At < end || b.Len != needs(b.Len) || b.At%b.Len != 0 || slices.Contains(used[b.At:b.At+b.Len], true) {
			t.Fatalf("of %d levels free are %v", levels, list)
		}
		if i > 0 && list[i-1].Len == b.Len && b.At == end && b.At/b.Len%2 == 1 {
			t.Fatalf("of %d levels free are %v, where two are buddies", levels, list)
		}
		fill(used[b.At:b.At+b.Len], true)
		end = b.At + b.Len
	}
	if slices.Contains(used, false) {
		t.Fatalf("of %d levels free are %v, and more", levels, list)
	}
}

func fill(list []bool, with bool) {
	for i := range list {
		list[i] = with
	}
}

// TestAllComesBack: when all is given back in the end, in whichever order, all words are one piece.
func TestAllComesBack(t *testing.T) {
	d := dice(6)
	for range 3000 {
		levels := d.below(api.MaxLevels + 1)
		s := newSlow(levels)
		var asks, back []api.Ask
		for range api.MaxScript / 2 {
			a := take(1 + d.below(1+1<<levels/(1+d.below(20))))
			at, e := s.ask(a)
			if asks = append(asks, a); e == api.OK {
				back = slices.Insert(back, d.below(len(back)+1), give(at))
			}
		}
		f, e := buddy.Play(levels, slices.Concat(asks, back))
		if e != api.OK || !slices.Equal(f.Free, blocks([2]int{0, 1 << levels})) {
			t.Fatalf("Play(%d, %v and %v): %v %d", levels, asks, back, f, e)
		}
	}
}

// TestErrorsChangeNothing: without the asks that are told an error, the others are told the same.
func TestErrorsChangeNothing(t *testing.T) {
	d := dice(5)
	for range 3000 {
		levels, asks := d.play()
		f, _ := buddy.Play(levels, asks)
		var good []api.Ask
		var at []int
		for i, a := range asks {
			if f.Codes[i] == api.OK {
				good, at = append(good, a), append(at, f.At[i])
			}
		}
		holdPlay(t, "without errors", levels, good, api.Freed{Codes: fine(len(good)), At: at, Free: f.Free})
	}
}
