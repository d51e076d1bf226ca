package fingers_test

import (
	"math"
	"slices"
	"testing"

	"ragpicker/api"
	"ragpicker/fingers"
)

type wrongArena struct {
	name   string
	a      api.Arena
	fields int // of the objects, as far as all have the same
	want   api.Errno
}

// none is a word that would refer to MaxWords: it is of no value.
const none = 2 * api.MaxWords

// wrongArenas has arenas that may not be; each would have something to tell, if it were taken.
func wrongArenas() []wrongArena {
	words, fields, roots := crowd(0), crowd(4), crowd(0)
	words.Words = append(words.Words, head(0))
	fields.Words = append(fields.Words, object(4, 0)...)
	roots.Roots = append(roots.Roots, at(0))
	return []wrongArena{
		{"a word too many", words, 0, api.ErrLarge},
		{"an object too many", fields, 4, api.ErrLarge},
		{"a root too many", roots, 0, api.ErrLarge},
		{"a root too many, all numbers", api.Arena{Words: row(head(0)), Roots: slices.Repeat(row(of(1)), api.MaxRoots+1)}, 0, api.ErrLarge},
		{"a root too many, no word", api.Arena{Roots: slices.Repeat(row(of(1)), api.MaxRoots+1)}, 2, api.ErrLarge},
		{"words far too many", api.Arena{Words: slices.Repeat(row(head(0)), 100000), Roots: row(at(0))}, 0, api.ErrLarge},
		{"no header first", api.Arena{Words: row(of(1), head(0)), Roots: row(at(1))}, 0, api.ErrForm},
		{"no header behind an object", api.Arena{Words: row(head(1), of(1), of(1)), Roots: row(at(0))}, 1, api.ErrForm},
		{"no header behind all that can be come to", api.Arena{Words: row(head(1), at(2), head(1), at(0), at(0)), Roots: row(at(0))}, 1, api.ErrForm},
		{"a header with too many fields", api.Arena{Words: row(head(5), of(1), of(2), of(3), of(4), of(5)), Roots: row(at(0))}, 5, api.ErrForm},
		{"a header with a bit too many", api.Arena{Words: row(head(0), head(0)|1<<12), Roots: row(at(0))}, 0, api.ErrForm},
		{"a header with another tag", api.Arena{Words: row(head(0), head(0)^1<<56), Roots: row(at(0))}, 0, api.ErrForm},
		{"fields beyond the end, all of them", api.Arena{Words: row(head(1), of(1), head(1)), Roots: row(at(0))}, 1, api.ErrForm},
		{"fields beyond the end, the last one", api.Arena{Words: append(object(4, 0), head(4), of(1), of(2), of(3)), Roots: row(at(0))}, 4, api.ErrForm},
		{"a field of no value", api.Arena{Words: row(head(1), of(1), head(1), none), Roots: row(at(0))}, 1, api.ErrArg},
		{"a field of no value, come to", api.Arena{Words: row(head(2), of(0), math.MaxUint64-1), Roots: row(at(0))}, 2, api.ErrArg},
		{"a root of no value", api.Arena{Words: row(head(0)), Roots: row(at(0), 1<<63)}, 0, api.ErrArg},
		{"a root that is a header, and no value", api.Arena{Words: row(head(0)), Roots: row(at(0), head(0))}, 0, api.ErrArg},
		{"a field to a field", api.Arena{Words: row(head(1), of(1), head(1), at(3)), Roots: row(at(0))}, 1, api.ErrArg},
		{"a field to a field, come to", api.Arena{Words: row(head(2), at(2), of(0)), Roots: row(at(0))}, 2, api.ErrArg},
		{"a field to a field that would be a header", api.Arena{Words: row(head(2), head(1), at(1)), Roots: row(at(0))}, 2, api.ErrArg},
		{"a field to the end", api.Arena{Words: row(head(1), of(1), head(1), at(4)), Roots: row(at(0))}, 1, api.ErrArg},
		{"a root to a field", api.Arena{Words: row(head(1), of(1), head(1), of(1)), Roots: row(at(2), at(1))}, 1, api.ErrArg},
		{"a root to the end", api.Arena{Words: row(head(0)), Roots: row(at(0), at(1))}, 0, api.ErrArg},
		{"a root, of no word", api.Arena{Roots: row(at(0))}, 0, api.ErrArg},
	}
}

// wrongTwice has arenas in which several things are wrong.
func wrongTwice() []wrongArena {
	many := slices.Repeat(row(of(1)), api.MaxRoots+1)
	return []wrongArena{
		{"words too many, no header, a wrong root", api.Arena{Words: make([]uint64, api.MaxWords+1), Roots: row(none)}, 0, api.ErrLarge},
		{"words too many, a wrong field", api.Arena{Words: append(row(head(1), none), crowd(1).Words...), Roots: row(at(0))}, 1, api.ErrLarge},
		{"roots too many, no header", api.Arena{Words: row(0), Roots: many}, 0, api.ErrLarge},
		{"roots too many, fields beyond the end", api.Arena{Words: row(head(1)), Roots: many}, 1, api.ErrLarge},
		{"roots too many, a wrong field", api.Arena{Words: row(head(1), at(1)), Roots: many}, 1, api.ErrLarge},
		{"roots too many, and wrong", api.Arena{Words: row(head(0)), Roots: append(row(none), many...)}, 0, api.ErrLarge},
		{"roots too many, and objects of several sizes", api.Arena{Words: row(head(0), head(1), of(1)), Roots: many}, 0, api.ErrLarge},
		{"a wrong root, no header", api.Arena{Words: row(head(0), 0), Roots: row(at(1), none)}, 0, api.ErrForm},
		{"a wrong root, fields beyond the end", api.Arena{Words: row(head(1)), Roots: row(none)}, 1, api.ErrForm},
		{"a wrong field ahead of no header", api.Arena{Words: row(head(1), none, 0), Roots: row(at(0))}, 1, api.ErrForm},
		{"a wrong field ahead of fields beyond the end", api.Arena{Words: row(head(1), at(1), head(1)), Roots: row(at(0))}, 1, api.ErrForm},
		{"a wrong field, a wrong root", api.Arena{Words: row(head(1), none), Roots: row(at(1))}, 1, api.ErrArg},
		{"a wrong field, and objects of several sizes", api.Arena{Words: row(head(1), none, head(0)), Roots: row(at(0))}, 1, api.ErrArg},
		{"a wrong root, and objects of several sizes", api.Arena{Words: row(head(0), head(1), of(1)), Roots: row(at(2))}, 0, api.ErrArg},
	}
}

// badFields may be the number of fields of no object.
var badFields = []int{-1, -2, -api.MaxFields, math.MinInt32, math.MinInt, api.MaxFields + 1, api.MaxFields + 2, api.MaxWords, 256, 1 << 32, math.MaxInt - 1, math.MaxInt}

// holdError holds that Squeeze tells want, and nothing beside it.
func holdError(t *testing.T, name string, a api.Arena, fields int, want api.Errno) {
	t.Helper()
	before := cloneArena(a)
	if b, n, e := fingers.Squeeze(a, fields); e != want || n != 0 || !isZeroArena(b) {
		t.Errorf("%s, fields %d: %x %d %d, want %d alone", name, fields, b, n, e, want)
	}
	if !equalArenas(before, a) {
		t.Errorf("%s, fields %d: the arena was changed", name, fields)
	}
}

// Whatever number of fields is asked for, what is wrong with the arena itself is told first.
func TestWrongArenas(t *testing.T) {
	for _, c := range append(wrongArenas(), wrongTwice()...) {
		holdError(t, c.name, c.a, c.fields, c.want)
		for fields := range api.MaxFields + 1 {
			holdError(t, c.name, c.a, fields, c.want)
		}
		for _, fields := range badFields {
			holdError(t, c.name, c.a, fields, c.want)
		}
	}
}

func TestWrongNumbersOfFields(t *testing.T) {
	for _, wrong := range badFields {
		holdError(t, "no word", api.Arena{}, wrong, api.ErrRange)
		holdError(t, "no word, a root", api.Arena{Roots: row(of(1))}, wrong, api.ErrRange)
		holdError(t, "objects of several sizes", api.Arena{Words: row(head(0), head(1), of(1)), Roots: row(at(0))}, wrong, api.ErrRange)
		for fields := range api.MaxFields + 1 {
			holdError(t, "objects of one size", crowd(fields), wrong, api.ErrRange)
		}
	}
}

func TestObjectsOfAnotherSize(t *testing.T) {
	for fields := range api.MaxFields + 1 {
		for asked := range api.MaxFields + 1 {
			if asked == fields {
				continue
			}
			holdError(t, "one object, no root", api.Arena{Words: object(fields, 1)}, asked, api.ErrForm)
			holdError(t, "one object, come to", api.Arena{Words: object(fields, 1), Roots: row(at(0))}, asked, api.ErrForm)
			holdError(t, "as many as may be", crowd(fields), asked, api.ErrForm)
			// One alone among others that are right, at each place there, whether it can be come to or not.
			for ahead := range 4 {
				list := slices.Concat(objects(asked, upTo(ahead)...), object(fields, 9), objects(asked, upTo(3-ahead)...))
				other := at((1 + asked) * ahead)
				holdError(t, "one alone, no root", api.Arena{Words: list}, asked, api.ErrForm)
				holdError(t, "one alone, come to", api.Arena{Words: list, Roots: row(other)}, asked, api.ErrForm)
				if ahead > 0 {
					holdError(t, "one alone, another one come to", api.Arena{Words: list, Roots: row(at(0))}, asked, api.ErrForm)
				}
			}
			last := append(objects(asked, upTo(most(asked)-8)...), object(fields, 9)...)
			holdError(t, "the very last one of many", api.Arena{Words: last, Roots: row(at(0))}, asked, api.ErrForm)
		}
	}
}

// The words of two objects may be as many as those of one of another size, and a field may look like a header.
func TestObjectsOfAnotherSizeThatFit(t *testing.T) {
	for _, c := range []struct {
		name   string
		words  []uint64
		fields int
	}{
		{"two for one", row(head(1), of(1), head(1), of(2)), 3},
		{"one for two", row(head(3), of(1), head(1), of(2)), 1},
		{"one for two, a header where the second one would begin", row(head(3), of(1), aged(1, 7), head(1)), 1},
		{"one for two, behind one that is right", row(head(1), of(0), head(3), of(1), head(1), of(2)), 1},
		{"as many words as one field more", row(head(0), head(2), of(1), of(2)), 1},
		{"as many words as one field more, the other way round", row(head(2), of(1), of(2), head(0)), 1},
		{"without fields, one after the other", row(head(0), head(0), head(0)), 2},
		{"one that is marked", row(head(1), of(1), set(head(0))), 1},
	} {
		holdError(t, c.name, api.Arena{Words: c.words, Roots: row(at(0))}, c.fields, api.ErrForm)
	}
}

func TestNoObjectAtAll(t *testing.T) {
	roots := row(of(0), of(-1), of(256), head(1))
	for fields := range api.MaxFields + 1 {
		holdSqueeze(t, "nothing", api.Arena{}, fields, api.Arena{}, 0)
		holdSqueeze(t, "numbers as roots", api.Arena{Roots: roots}, fields, api.Arena{Roots: roots}, 0)
		holdSqueeze(t, "MaxRoots numbers", api.Arena{Roots: slices.Repeat(roots, 2)}, fields, api.Arena{Roots: slices.Repeat(roots, 2)}, 0)
	}
}

// behind lays words behind the length of both lists that would be wrong there, or right where too few are left.
func behind(a api.Arena) api.Arena {
	lay := func(list []uint64) []uint64 {
		return append(slices.Clone(list), head(0), of(1), 0, none, math.MaxUint64, head(4))[:len(list)]
	}
	return api.Arena{Words: lay(a.Words), Roots: lay(a.Roots)}
}

// whole has both lists up to their capacities.
func whole(a api.Arena) api.Arena {
	return api.Arena{Words: a.Words[:cap(a.Words)], Roots: a.Roots[:cap(a.Roots)]}
}

// spoil writes over both lists, up to their capacities.
func spoil(a api.Arena) {
	clear(whole(a).Words)
	clear(whole(a).Roots)
}

func TestArenasStay(t *testing.T) {
	d := dice(6)
	for range 200 {
		for fields := range api.MaxFields + 1 {
			a := d.arena(api.MaxWords, fields)
			want, went := slowSqueeze(a, fields)
			b := behind(a)
			before := cloneArena(whole(b))
			holdSqueeze(t, "words behind the length", b, fields, want, went)
			made, _, _ := fingers.Squeeze(b, fields)
			spoil(made)
			if !equalArenas(before, whole(b)) {
				t.Fatalf("%x was changed to %x", before, whole(b))
			}
			// What is told does not change with what was handed in.
			made, _, _ = fingers.Squeeze(b, fields)
			spoil(b)
			if !equalArenas(made, want) {
				t.Fatalf("what is told of %x shares memory with it", a)
			}
		}
	}
}

func TestNothingBehindTheLengthIsTaken(t *testing.T) {
	// Up to its capacity it would be an arena of other objects: up to its length it is none, or one of such objects alone.
	list := row(head(2), of(1), of(2), head(0))
	for end, want := range []api.Errno{api.ErrArg, api.ErrForm, api.ErrForm, api.OK, api.ErrForm} {
		if _, _, e := fingers.Squeeze(api.Arena{Words: list[:end], Roots: row(at(0))}, 2); e != want {
			t.Errorf("%d words: %d, want %d", end, e, want)
		}
	}
	if _, _, e := fingers.Squeeze(api.Arena{Words: list[:3], Roots: row(at(3))}, 2); e != api.ErrArg {
		t.Errorf("a root to what stands behind the length: %d, want %d", e, api.ErrArg)
	}
	roots := row(at(1), at(0))
	holdSqueeze(t, "a root behind the length", api.Arena{Words: row(aged(0, 1), aged(0, 2)), Roots: roots[:1]}, 0, api.Arena{Words: row(aged(0, 2)), Roots: row(at(0))}, 1)
}

func TestListsThatShareMemory(t *testing.T) {
	list := row(aged(2, 1), of(1), of(2), aged(2, 2), at(3), at(6), aged(2, 3), of(5), at(3))
	before := slices.Clone(list)
	want := row(aged(2, 3), of(5), at(3), aged(2, 2), at(3), at(0))
	holdSqueeze(t, "fields are the roots", api.Arena{Words: list, Roots: list[4:6]}, 2, api.Arena{Words: want, Roots: row(at(3), at(0))}, 1)
	holdSqueeze(t, "one field is the root", api.Arena{Words: list, Roots: list[8:]}, 2, api.Arena{Words: want, Roots: row(at(3))}, 1)
	if !slices.Equal(list, before) {
		t.Errorf("%x was changed to %x", before, list)
	}
}

func TestBothListsShareNothing(t *testing.T) {
	d := dice(7)
	for range 100 {
		for fields := range api.MaxFields + 1 {
			a := d.arena(api.MaxWords, fields)
			b, _, _ := fingers.Squeeze(a, fields)
			w := whole(b)
			for i := range w.Words {
				w.Words[i] = 1
			}
			for i := range w.Roots {
				w.Roots[i] = 2
			}
			if slices.Contains(w.Words, 2) {
				t.Fatalf("Squeeze of %x: both lists share memory", a)
			}
		}
	}
}

func TestAnswersHangOnArgumentsAlone(t *testing.T) {
	d := dice(8)
	for range 100 {
		for fields := range api.MaxFields + 1 {
			a := d.arena(api.MaxWords, fields)
			b, went, _ := fingers.Squeeze(a, fields)
			want := cloneArena(b)
			spoil(b)
			fingers.Squeeze(d.arena(api.MaxWords, api.MaxFields-fields), api.MaxFields-fields)
			holdSqueeze(t, "once more", a, fields, want, went)
		}
	}
}
