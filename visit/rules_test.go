package visit_test

import (
	"math"
	"slices"
	"testing"

	"ragpicker/api"
	"ragpicker/visit"
)

type wrongArena struct {
	name string
	a    api.Arena
	want api.Errno
}

// wrongArenas has arenas that may not be; each would have something to tell, if it were taken.
func wrongArenas() []wrongArena {
	const none = 2 * api.MaxWords
	words, fields, roots := crowd(), tree(), crowd()
	words.Words = append(words.Words, head(0))
	fields.Words = append(fields.Words, head(2), of(1), of(2))
	roots.Roots = append(roots.Roots, at(0))
	return []wrongArena{
		{"a word too many", words, api.ErrLarge},
		{"an object too many", fields, api.ErrLarge},
		{"a root too many", roots, api.ErrLarge},
		{"words far too many", api.Arena{Words: make([]uint64, 100000)}, api.ErrLarge},
		{"too large, and all else", api.Arena{Words: make([]uint64, api.MaxWords+1), Roots: row(none, at(7))}, api.ErrLarge},
		{"no header first", api.Arena{Words: row(of(1), head(0)), Roots: row(at(1))}, api.ErrForm},
		{"no header behind an object", api.Arena{Words: row(head(1), of(1), of(1)), Roots: row(at(0))}, api.ErrForm},
		{"a header with too many fields", api.Arena{Words: row(head(5), of(1), of(2), of(3), of(4), of(5)), Roots: row(at(0))}, api.ErrForm},
		{"a header with a bit too many", api.Arena{Words: row(head(0), head(0)|1<<12), Roots: row(at(0))}, api.ErrForm},
		{"fields beyond the end, all of them", api.Arena{Words: row(head(0), head(1)), Roots: row(at(0))}, api.ErrForm},
		{"fields beyond the end, the last one", api.Arena{Words: row(head(0), set(head(4)), of(1), of(2), of(3)), Roots: row(at(0))}, api.ErrForm},
		{"a wrong root, and no header", api.Arena{Words: row(head(0), 0), Roots: row(at(1), none)}, api.ErrForm},
		{"a field of no value", api.Arena{Words: row(head(0), head(1), none), Roots: row(at(0))}, api.ErrArg},
		{"a field of no value, come to", api.Arena{Words: row(head(2), of(0), math.MaxUint64-1), Roots: row(at(0))}, api.ErrArg},
		{"a root of no value", api.Arena{Words: row(head(0)), Roots: row(at(0), 1<<63)}, api.ErrArg},
		{"a field to a field", api.Arena{Words: row(head(0), head(1), at(2)), Roots: row(at(0))}, api.ErrArg},
		{"a field to a field, come to", api.Arena{Words: row(head(2), at(2), of(0)), Roots: row(at(0))}, api.ErrArg},
		{"a field to a field that would be a header", api.Arena{Words: row(head(2), head(1), at(1)), Roots: row(at(0))}, api.ErrArg},
		{"a field to the end", api.Arena{Words: row(head(0), head(1), at(3)), Roots: row(at(0))}, api.ErrArg},
		{"a root to a field", api.Arena{Words: row(head(1), of(1), head(0)), Roots: row(at(2), at(1))}, api.ErrArg},
		{"a root to the end", api.Arena{Words: row(head(0)), Roots: row(at(0), at(1))}, api.ErrArg},
		{"a root, of no word", api.Arena{Roots: row(at(0))}, api.ErrArg},
	}
}

func TestWrongArenas(t *testing.T) {
	for _, c := range wrongArenas() {
		before := cloneArena(c.a)
		if m, l, e := visit.Visit(c.a); e != c.want || !isZeroArena(m) || len(l) != 0 {
			t.Errorf("%s: %x %v %d, want %d alone", c.name, m, l, e, c.want)
		}
		if !equalArenas(before, c.a) {
			t.Errorf("%s: the arena was changed", c.name)
		}
	}
}

// behind lays words behind the length of both lists that would be wrong there, or right where too few are left.
func behind(a api.Arena) api.Arena {
	lay := func(list []uint64) []uint64 {
		return append(slices.Clone(list), head(0), of(1), 0, 2*api.MaxWords, math.MaxUint64, head(4))[:len(list)]
	}
	return api.Arena{Words: lay(a.Words), Roots: lay(a.Roots)}
}

// whole has both lists up to their capacities.
func whole(a api.Arena) api.Arena {
	return api.Arena{Words: a.Words[:cap(a.Words)], Roots: a.Roots[:cap(a.Roots)]}
}

// spoil writes over both lists, up to their capacities.
func spoil(a api.Arena) {
	clear(whole(a).Words)
	clear(whole(a).Roots)
}

func TestArenasStay(t *testing.T) {
	d := dice(3)
	for range 500 {
		a, _ := d.arena(api.MaxWords)
		order := slowOrder(a)
		b := behind(a)
		before := cloneArena(whole(b))
		holdVisit(t, "words behind the length", b, order)
		m, l, _ := visit.Visit(b)
		spoil(m)
		clear(l[:cap(l)])
		if !equalArenas(before, whole(b)) {
			t.Fatalf("%x was changed to %x", before, whole(b))
		}
		// What is told does not change with what was handed in.
		m, l, _ = visit.Visit(b)
		spoil(b)
		if !equalArenas(m, markJust(a, order)) || !slices.Equal(l, order) {
			t.Fatalf("what is told of %x shares memory with it", a)
		}
	}
}

func TestBothListsShareNothing(t *testing.T) {
	d := dice(4)
	for range 300 {
		a, _ := d.arena(api.MaxWords)
		m, _, _ := visit.Visit(a)
		w := whole(m)
		for i := range w.Words {
			w.Words[i] = 1
		}
		for i := range w.Roots {
			w.Roots[i] = 2
		}
		if slices.Contains(w.Words, 2) {
			t.Fatalf("Visit of %x: both lists share memory", a)
		}
	}
}

func TestAnswersHangOnArgumentsAlone(t *testing.T) {
	d := dice(5)
	for range 300 {
		a, _ := d.arena(api.MaxWords)
		m, l, _ := visit.Visit(a)
		marks, order := cloneArena(m), slices.Clone(l)
		spoil(m)
		clear(l[:cap(l)])
		other, _ := d.arena(api.MaxWords)
		visit.Visit(other)
		if m, l, _ := visit.Visit(a); !equalArenas(m, marks) || !slices.Equal(l, order) {
			t.Fatalf("Visit of %x: %x %v, then %x %v", a, marks, order, m, l)
		}
	}
}
