package slide_test

import (
	"math"
	"slices"
	"testing"

	"ragpicker/api"
	"ragpicker/slide"
)

type wrongArena struct {
	name string
	a    api.Arena
	want api.Errno
}

// none is a word that would refer to MaxWords: it is of no value.
const none = 2 * api.MaxWords

// wrongArenas has arenas that may not be; each would have something to tell, if it were taken.
func wrongArenas() []wrongArena {
	words, fields, roots := crowd(), dense(), crowd()
	words.Words = append(words.Words, head(0))
	fields.Words = append(fields.Words, head(2), of(1), of(2))
	roots.Roots = append(roots.Roots, at(0))
	return []wrongArena{
		{"a word too many", words, api.ErrLarge},
		{"an object too many", fields, api.ErrLarge},
		{"a root too many", roots, api.ErrLarge},
		{"a root too many, all numbers", api.Arena{Words: row(head(0)), Roots: slices.Repeat(row(of(1)), api.MaxRoots+1)}, api.ErrLarge},
		{"words far too many", api.Arena{Words: slices.Repeat(row(head(0)), 100000), Roots: row(at(0))}, api.ErrLarge},
		{"no header first", api.Arena{Words: row(of(1), head(0)), Roots: row(at(1))}, api.ErrForm},
		{"no header behind an object", api.Arena{Words: row(head(1), of(1), of(1)), Roots: row(at(0))}, api.ErrForm},
		{"no header behind all that can be come to", api.Arena{Words: row(head(1), at(2), head(0), at(0)), Roots: row(at(0))}, api.ErrForm},
		{"a header with too many fields", api.Arena{Words: row(head(5), of(1), of(2), of(3), of(4), of(5)), Roots: row(at(0))}, api.ErrForm},
		{"a header with a bit too many", api.Arena{Words: row(head(0), head(0)|1<<12), Roots: row(at(0))}, api.ErrForm},
		{"a header with another tag", api.Arena{Words: row(head(0), head(0)^1<<56), Roots: row(at(0))}, api.ErrForm},
		{"fields beyond the end, all of them", api.Arena{Words: row(head(0), head(1)), Roots: row(at(0))}, api.ErrForm},
		{"fields beyond the end, the last one", api.Arena{Words: row(head(0), set(head(4)), of(1), of(2), of(3)), Roots: row(at(0))}, api.ErrForm},
		{"a field of no value", api.Arena{Words: row(head(0), head(1), none), Roots: row(at(0))}, api.ErrArg},
		{"a field of no value, come to", api.Arena{Words: row(head(2), of(0), math.MaxUint64-1), Roots: row(at(0))}, api.ErrArg},
		{"a root of no value", api.Arena{Words: row(head(0)), Roots: row(at(0), 1<<63)}, api.ErrArg},
		{"a root that is a header, and no value", api.Arena{Words: row(head(0)), Roots: row(at(0), head(0))}, api.ErrArg},
		{"a field to a field", api.Arena{Words: row(head(0), head(1), at(2)), Roots: row(at(0))}, api.ErrArg},
		{"a field to a field, come to", api.Arena{Words: row(head(2), at(2), of(0)), Roots: row(at(0))}, api.ErrArg},
		{"a field to a field that would be a header", api.Arena{Words: row(head(2), head(1), at(1)), Roots: row(at(0))}, api.ErrArg},
		{"a field to the end", api.Arena{Words: row(head(0), head(1), at(3)), Roots: row(at(0))}, api.ErrArg},
		{"a root to a field", api.Arena{Words: row(head(1), of(1), head(0)), Roots: row(at(2), at(1))}, api.ErrArg},
		{"a root to the end", api.Arena{Words: row(head(0)), Roots: row(at(0), at(1))}, api.ErrArg},
		{"a root, of no word", api.Arena{Roots: row(at(0))}, api.ErrArg},
	}
}

// wrongTwice has arenas in which several things are wrong.
func wrongTwice() []wrongArena {
	many := slices.Repeat(row(of(1)), api.MaxRoots+1)
	return []wrongArena{
		{"words too many, no header, a wrong root", api.Arena{Words: make([]uint64, api.MaxWords+1), Roots: row(none)}, api.ErrLarge},
		{"words too many, a wrong field", api.Arena{Words: append(row(head(1), none), crowd().Words...), Roots: row(at(0))}, api.ErrLarge},
		{"roots too many, no header", api.Arena{Words: row(0), Roots: many}, api.ErrLarge},
		{"roots too many, fields beyond the end", api.Arena{Words: row(head(1)), Roots: many}, api.ErrLarge},
		{"roots too many, a wrong field", api.Arena{Words: row(head(1), at(1)), Roots: many}, api.ErrLarge},
		{"roots too many, and wrong", api.Arena{Words: row(head(0)), Roots: append(row(none), many...)}, api.ErrLarge},
		{"a wrong root, no header", api.Arena{Words: row(head(0), 0), Roots: row(at(1), none)}, api.ErrForm},
		{"a wrong root, fields beyond the end", api.Arena{Words: row(head(1)), Roots: row(none)}, api.ErrForm},
		{"a wrong field ahead of no header", api.Arena{Words: row(head(1), none, 0), Roots: row(at(0))}, api.ErrForm},
		{"a wrong field ahead of fields beyond the end", api.Arena{Words: row(head(1), at(1), head(2), at(0)), Roots: row(at(0))}, api.ErrForm},
		{"a wrong field, a wrong root", api.Arena{Words: row(head(1), none), Roots: row(at(1))}, api.ErrArg},
	}
}

func TestWrongArenas(t *testing.T) {
	for _, c := range append(wrongArenas(), wrongTwice()...) {
		before := cloneArena(c.a)
		if b, e := slide.Slide(c.a); e != c.want || !isZeroArena(b) {
			t.Errorf("%s: %x %d, want %d alone", c.name, b, e, c.want)
		}
		if !equalArenas(before, c.a) {
			t.Errorf("%s: the arena was changed", c.name)
		}
	}
}

// behind lays words behind the length of both lists that would be wrong there, or right where too few are left.
func behind(a api.Arena) api.Arena {
	lay := func(list []uint64) []uint64 {
		return append(slices.Clone(list), head(0), of(1), 0, none, math.MaxUint64, head(4))[:len(list)]
	}
	return api.Arena{Words: lay(a.Words), Roots: lay(a.Roots)}
}

// whole has both lists up to their capacities.
func whole(a api.Arena) api.Arena {
	return api.Arena{Words: a.Words[:cap(a.Words)], Roots: a.Roots[:cap(a.Roots)]}
}

// spoil writes over both lists, up to their capacities.
func spoil(a api.Arena) {
	clear(whole(a).Words)
	clear(whole(a).Roots)
}

func TestArenasStay(t *testing.T) {
	d := dice(5)
	for range 500 {
		a, _ := d.arena(api.MaxWords)
		want := slowSlide(a, slowReached(a))
		b := behind(a)
		before := cloneArena(whole(b))
		holdSlide(t, "words behind the length", b, want)
		made, _ := slide.Slide(b)
		spoil(made)
		if !equalArenas(before, whole(b)) {
			t.Fatalf("%x was changed to %x", before, whole(b))
		}
		// What is told does not change with what was handed in.
		made, _ = slide.Slide(b)
		spoil(b)
		if !equalArenas(made, want) {
			t.Fatalf("what is told of %x shares memory with it", a)
		}
	}
}

func TestNothingBehindTheLengthIsTaken(t *testing.T) {
	// Up to its capacity it would be an arena: up to its length it is none.
	list := row(head(2), of(1), of(2), head(0))
	for end, want := range []api.Errno{api.ErrArg, api.ErrForm, api.ErrForm, api.OK, api.OK} {
		if _, e := slide.Slide(api.Arena{Words: list[:end], Roots: row(at(0))}); e != want {
			t.Errorf("%d words: %d, want %d", end, e, want)
		}
	}
	if _, e := slide.Slide(api.Arena{Words: list[:3], Roots: row(at(3))}); e != api.ErrArg {
		t.Errorf("a root to what stands behind the length: %d, want %d", e, api.ErrArg)
	}
	roots := row(at(3), at(0))
	holdSlide(t, "a root behind the length", api.Arena{Words: list, Roots: roots[:1]}, api.Arena{Words: row(head(0)), Roots: row(at(0))})
}

func TestListsThatShareMemory(t *testing.T) {
	list := row(head(0), aged(0, 1), head(2), at(1), at(2))
	before := slices.Clone(list)
	want := row(aged(0, 1), head(2), at(0), at(1))
	holdSlide(t, "fields are the roots", api.Arena{Words: list, Roots: list[3:]}, api.Arena{Words: want, Roots: row(at(0), at(1))})
	holdSlide(t, "one field is the root", api.Arena{Words: list, Roots: list[4:]}, api.Arena{Words: want, Roots: row(at(1))})
	if !slices.Equal(list, before) {
		t.Errorf("%x was changed to %x", before, list)
	}
}

func TestBothListsShareNothing(t *testing.T) {
	d := dice(6)
	for range 300 {
		a, _ := d.arena(api.MaxWords)
		b, _ := slide.Slide(a)
		w := whole(b)
		for i := range w.Words {
			w.Words[i] = 1
		}
		for i := range w.Roots {
			w.Roots[i] = 2
		}
		if slices.Contains(w.Words, 2) {
			t.Fatalf("Slide of %x: both lists share memory", a)
		}
	}
}

func TestAnswersHangOnArgumentsAlone(t *testing.T) {
	d := dice(7)
	for range 300 {
		a, _ := d.arena(api.MaxWords)
		b, _ := slide.Slide(a)
		want := cloneArena(b)
		spoil(b)
		other, _ := d.arena(api.MaxWords)
		slide.Slide(other)
		holdSlide(t, "once more", a, want)
	}
}
