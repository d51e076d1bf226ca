package slide_test

import (
	"slices"
	"testing"

	"ragpicker/api"
	"ragpicker/arena"
	"ragpicker/graph"
	"ragpicker/mark"
	"ragpicker/move"
	"ragpicker/slide"
)

func TestAllSmallArenas(t *testing.T) {
	seen := map[api.Errno]int{}
	hold := func(words, roots int) {
		for a := range smallArenas(words, roots) {
			want := arena.Check(a)
			seen[want]++
			if want == api.OK {
				holdSlide(t, "small", a, slowSlide(a, slowReached(a)))
			} else if b, e := slide.Slide(a); e != want || !isZeroArena(b) {
				t.Fatalf("Slide of %x: %x %d, want %d alone", a, b, e, want)
			}
		}
	}
	hold(5, 1)
	hold(4, 2)
	if len(seen) != 3 || seen[api.OK] < 1000 || seen[api.ErrForm] < 1000 || seen[api.ErrArg] < 1000 {
		t.Errorf("too few of a kind: %v", seen)
	}
}

func TestAllOfSomeShapes(t *testing.T) {
	for _, lens := range [][]int{{0, 1, 1, 2}, {2, 1, 0, 1}, {2, 2, 0}, {1, 0, 3}, {0, 4}, {1, 1, 1, 1}} {
		for a := range shapedArenas(lens...) {
			holdSlide(t, "shaped", a, slowSlide(a, slowReached(a)))
		}
	}
}

func TestManyArenas(t *testing.T) {
	d := dice(1)
	large, part := 0, 0
	for range 5000 {
		a, starts := d.arena(api.MaxWords)
		stay := slowReached(a)
		holdSlide(t, "thrown", a, slowSlide(a, stay))
		if len(starts) > api.MaxObjects {
			large++
		}
		if n := len(stay); n > len(starts)/4 && n < len(starts)*3/4 {
			part++
		}
	}
	if large < 1000 || part < 200 {
		t.Errorf("of 5000 arenas %d have more than MaxObjects objects, and of %d a good part is come to", large, part)
	}
}

// moved tells for each object that stays where it stood and where it stands now, by chapter 6 alone: the words of the others are those that are swept.
func moved(t *testing.T, a api.Arena) (from, to []int) {
	t.Helper()
	marked, e := mark.Mark(a, api.MaxRoom)
	if e != api.OK {
		t.Fatalf("Mark of %x: %d", a, e)
	}
	starts, _ := arena.Starts(a)
	swept, _ := mark.Sweep(marked)
	gone := 0
	for _, place := range starts {
		for len(swept) > 0 && swept[0].At+swept[0].Len <= place {
			gone += swept[0].Len
			swept = swept[1:]
		}
		if marked.Words[place]&markBit != 0 {
			from, to = append(from, place), append(to, place-gone)
		}
	}
	return from, to
}

// TestNoneMovesUp looks at where objects stand now: none further up than it stood, in the same order, and nothing beside them.
func TestNoneMovesUp(t *testing.T) {
	d := dice(2)
	for range 1500 {
		a, _ := d.arena(api.MaxWords)
		from, to := moved(t, a)
		b, e := slide.Slide(a)
		if e != api.OK {
			t.Fatalf("Slide of %x: %d", a, e)
		}
		now, e := arena.Starts(b)
		if e != api.OK || !slices.Equal(now, to) || len(b.Roots) != len(a.Roots) {
			t.Fatalf("Slide of %x: objects at %v %d, want %v", a, now, e, to)
		}
		words := 0
		for i, place := range now {
			if place > from[i] || b.Words[place] != a.Words[from[i]]&^markBit {
				t.Fatalf("Slide of %x: %x at %d, which stood at %d", a, b.Words[place], place, from[i])
			}
			words += 1 + len(fieldsOf(b, place))
		}
		if words != len(b.Words) {
			t.Fatalf("Slide of %x: %d words, want %d", a, len(b.Words), words)
		}
	}
}

// Read as graphs, both tell the same, whoever has cleared up.
func TestReadsTheSame(t *testing.T) {
	d := dice(3)
	taken := 0
	for range 3000 {
		a, _ := d.arena(api.MaxWords / 4)
		before, _ := arena.Read(a)
		if graph.Check(before) != api.OK {
			continue
		}
		taken++
		b, _ := slide.Slide(a)
		after, e := arena.Read(b)
		if same, es := graph.Same(before, after); e != api.OK || es != api.OK || !same {
			t.Fatalf("Slide of %x reads %v %d, before it %v", a, after, e, before)
		}
		reached, _ := graph.Reach(before)
		if all, _ := graph.Reach(after); len(all) != len(reached) || len(after.Objects) != len(reached) {
			t.Fatalf("Slide of %x has %d objects, %d of them come to, want %d", a, len(after.Objects), len(all), len(reached))
		}
	}
	if taken < 2000 {
		t.Errorf("of 3000 arenas only %d have a graph that Check takes", taken)
	}
}

// Whose objects all stay, stays as it is but for marks; and a copy is the same, whether they moved down before or not.
func TestSlideOfSlide(t *testing.T) {
	d := dice(4)
	for range 1000 {
		a, _ := d.arena(api.MaxWords)
		b, _ := slide.Slide(a)
		holdSlide(t, "once more", b, b)
		copied, _ := move.Copy(b)
		if want, e := move.Copy(a); e != api.OK || !equalArenas(copied, want) {
			t.Fatalf("Copy of Slide of %x: %x, want %x", a, copied, want)
		}
	}
}
