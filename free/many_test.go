package free_test

import (
	"slices"
	"testing"

	"ragpicker/api"
	"ragpicker/free"
)

func TestAllSmallScripts(t *testing.T) {
	for _, c := range []struct{ size, most int }{{1, 6}, {2, 6}, {3, 5}, {4, 5}, {5, 4}} {
		for asks := range smallScripts(someAsks(c.size), c.most) {
			for _, p := range policies {
				holdPlay(t, "small", c.size, p, asks, slowPlay(c.size, p, asks))
			}
		}
	}
}

// TestManyScripts holds thrown scripts against the chapter's words, and looks whether there is enough of each kind among them.
func TestManyScripts(t *testing.T) {
	d := dice(1)
	seen := map[api.Errno]int{}
	crowded, apart := 0, 0
	for range 8000 {
		size, policy, asks := d.play()
		want := slowPlay(size, policy, asks)
		holdPlay(t, "thrown", size, policy, asks, want)
		for _, e := range want.Codes {
			seen[e]++
		}
		if len(want.Free) >= 5 {
			crowded++
		}
		if tellsApart(size, asks) {
			apart++
		}
	}
	if len(seen) != 5 || min(seen[api.OK], seen[api.ErrArg], seen[api.ErrRange], seen[api.ErrKind], seen[api.ErrFull]) < 500 {
		t.Errorf("too few of a kind: %v", seen)
	}
	if crowded < 1000 || apart < 1000 {
		t.Errorf("%d have many blocks, %d tell all policies apart", crowded, apart)
	}
}

// tellsApart tells whether each policy answers this script in its own way.
func tellsApart(size int, asks []api.Ask) bool {
	var list []api.Freed
	for _, p := range policies {
		f := slowPlay(size, p, asks)
		if slices.ContainsFunc(list, func(g api.Freed) bool { return equalFreed(f, g) }) {
			return false
		}
		list = append(list, f)
	}
	return true
}

// TestWordsAreTakenOnce asks nothing but the answers: what is taken was free, and follows on a word that was not; what is free in the end is all the rest, as blocks by place, none beside another.
func TestWordsAreTakenOnce(t *testing.T) {
	d := dice(2)
	for range 3000 {
		size, policy, asks := d.play()
		f, e := free.Play(size, policy, asks)
		if e != api.OK || len(f.Codes) != len(asks) || len(f.At) != len(asks) {
			t.Fatalf("Play(%d, %d, %v): %v %d", size, policy, asks, f, e)
		}
		used, long := make([]bool, size), map[int]int{}
		for i, a := range asks {
			switch {
			case f.Codes[i] != api.OK:
			case a.Kind == api.FTake:
				at := f.At[i]
				if slices.Contains(used[at:at+a.N], true) || at > 0 && !used[at-1] {
					t.Fatalf("Play(%d, %d, %v): %v: ask %d takes at %d", size, policy, asks, f, i, at)
				}
				fill(used[at:at+a.N], true)
				long[at] = a.N
			case a.Kind == api.FGive:
				fill(used[a.N:a.N+long[a.N]], false)
			}
			if f.At[i] != 0 && (f.Codes[i] != api.OK || a.Kind != api.FTake) {
				t.Fatalf("Play(%d, %d, %v): %v: ask %d takes nothing", size, policy, asks, f, i)
			}
		}
		end := -1
		for _, b := range f.Free {
			if b.Len < 1 || b.At <= end || slices.Contains(used[b.At:b.At+b.Len], true) {
				t.Fatalf("Play(%d, %d, %v): free are %v", size, policy, asks, f.Free)
			}
			fill(used[b.At:b.At+b.Len], true)
			end = b.At + b.Len
		}
		if slices.Contains(used, false) {
			t.Fatalf("Play(%d, %d, %v): free are %v, and more", size, policy, asks, f.Free)
		}
	}
}

func fill(list []bool, with bool) {
	for i := range list {
		list[i] = with
	}
}

// TestErrorsChangeNothing: without the asks that are told an error, the others are told the same.
func TestErrorsChangeNothing(t *testing.T) {
	d := dice(5)
	for range 3000 {
		size, policy, asks := d.play()
		f, _ := free.Play(size, policy, asks)
		var good []api.Ask
		var at []int
		for i, a := range asks {
			if f.Codes[i] == api.OK {
				good, at = append(good, a), append(at, f.At[i])
			}
		}
		holdPlay(t, "without errors", size, policy, good, api.Freed{Codes: fine(len(good)), At: at, Free: f.Free})
	}
}
