package arena_test

import (
	"math"
	"slices"
	"testing"

	"ragpicker/api"
	"ragpicker/arena"
)

type checkCase struct {
	name string
	a    api.Arena
	want api.Errno
}

func runChecks(t *testing.T, cases []checkCase) {
	t.Helper()
	for _, c := range cases {
		if e := arena.Check(c.a); e != c.want {
			t.Errorf("%s: got %d, want %d", c.name, e, c.want)
		}
	}
}

func TestCheckTakesArenas(t *testing.T) {
	runChecks(t, []checkCase{
		{"no word at all", api.Arena{}, api.OK},
		{"empty lists", api.Arena{Words: row(), Roots: row()}, api.OK},
		{"no word, but numbers as roots", api.Arena{Roots: row(of(0), of(-1), of(300))}, api.OK},
		{"the chapter's", api.Arena{Words: row(head(1), 11)}, api.OK},
		{"an object without fields", api.Arena{Words: row(head(0)), Roots: row(at(0))}, api.OK},
		{"an object with all fields", api.Arena{Words: row(head(4), of(1), of(2), at(0), of(4)), Roots: row(at(0))}, api.OK},
		{"a reference to what stands behind", api.Arena{Words: row(head(1), at(2), head(1), at(0))}, api.OK},
		{"marks and ages", api.Arena{Words: row(used(0, 7), used(1, 0), at(0), head(0)|7<<9), Roots: row(at(3))}, api.OK},
		{"numbers that are no places", api.Arena{Words: row(head(2), of(1), of(256)), Roots: row(of(-1))}, api.OK},
		{"the least and the greatest number", api.Arena{Words: row(head(2), of(api.MinInt), of(api.MaxInt)), Roots: row(of(api.MaxInt), of(api.MinInt))}, api.OK},
		{"a field that would be a header as well", api.Arena{Words: row(head(2), head(1), head(3)), Roots: row(head(1))}, api.OK},
		{"MaxWords words, MaxRoots roots, no field", crowd(), api.OK},
		{"MaxWords words, all fields", block(), api.OK},
	})
}

func TestCheckLarge(t *testing.T) {
	words, fields, roots := crowd(), block(), crowd()
	words.Words = append(words.Words, head(0))
	fields.Words = append(fields.Words, head(4), of(1), of(2), of(3), of(4))
	roots.Roots = append(roots.Roots, of(1))
	runChecks(t, []checkCase{
		{"a word too many", words, api.ErrLarge},
		{"an object with fields too many", fields, api.ErrLarge},
		{"a root too many", roots, api.ErrLarge},
		{"only words, far too many", api.Arena{Words: make([]uint64, 100000)}, api.ErrLarge},
		{"only roots, far too many", api.Arena{Roots: make([]uint64, 100000)}, api.ErrLarge},
		{"both too many", api.Arena{Words: words.Words, Roots: roots.Roots}, api.ErrLarge},
	})
}

func TestCheckForm(t *testing.T) {
	last, odd := crowd(), block()
	last.Words[api.MaxWords-1] = head(1)
	odd.Words[0] = head(3)
	cases := []checkCase{
		{"fields beyond the end, all of them", api.Arena{Words: row(head(1))}, api.ErrForm},
		{"fields beyond the end, the last one", api.Arena{Words: row(head(4), of(1), of(2), of(3))}, api.ErrForm},
		{"fields of a later object beyond the end", api.Arena{Words: row(head(1), of(1), head(0), head(2), of(3))}, api.ErrForm},
		{"the last of MaxWords words has a field", last, api.ErrForm},
		{"a field is left over", api.Arena{Words: row(head(1), of(1), of(2))}, api.ErrForm},
		{"a field is left over in the midst", odd, api.ErrForm},
		{"a reference is left over", api.Arena{Words: row(head(0), at(0))}, api.ErrForm},
	}
	for _, w := range row(0, 1, 2, 1<<63, math.MaxUint64, head(5), head(255), head(0)|1<<12, head(0)|1<<55, head(0)^1<<56, 0xA4<<56, 0xA500, 0x5A<<56) {
		cases = append(cases,
			checkCase{"no header first", api.Arena{Words: row(w)}, api.ErrForm},
			checkCase{"no header first, and one behind it", api.Arena{Words: row(w, head(0))}, api.ErrForm},
			checkCase{"no header behind an object", api.Arena{Words: row(head(1), of(7), w), Roots: row(at(0))}, api.ErrForm})
	}
	runChecks(t, cases)
}

func TestCheckArg(t *testing.T) {
	three := row(head(0), head(2), of(5), of(6), head(0)|1<<8)
	var cases []checkCase
	// Of these all that are below MaxWords are places, but no object begins there.
	for _, place := range []uint64{2, 3, 5, 6, 255, 256, 257, 1 << 16, 1 << 32, 1<<32 + 1, 1<<61 + 4, 1 << 62, 1<<63 - 1} {
		first, second := slices.Clone(three), slices.Clone(three)
		first[2], second[3] = 2*place, 2*place
		cases = append(cases,
			checkCase{"a root", api.Arena{Words: three, Roots: row(at(4), of(1), 2*place)}, api.ErrArg},
			checkCase{"a first field", api.Arena{Words: first, Roots: row(at(1))}, api.ErrArg},
			checkCase{"a field of what can't be come to", api.Arena{Words: second, Roots: row(at(0))}, api.ErrArg})
	}
	full, all := block(), crowd()
	full.Words[api.MaxWords-2] = at(api.MaxWords - 2)
	all.Roots[api.MaxRoots-1] = at(api.MaxWords)
	runChecks(t, append(cases,
		checkCase{"no object", api.Arena{Roots: row(at(0))}, api.ErrArg},
		checkCase{"a word of no value, and no object", api.Arena{Roots: row(2 * api.MaxWords)}, api.ErrArg},
		checkCase{"a root that is a header, and no value", api.Arena{Words: row(head(0)), Roots: row(head(0))}, api.ErrArg},
		checkCase{"a field that is a header, and no value", api.Arena{Words: row(head(1), head(0))}, api.ErrArg},
		checkCase{"a reference to a field that would be a header", api.Arena{Words: row(head(2), head(1), at(1))}, api.ErrArg},
		checkCase{"a field to itself", api.Arena{Words: row(head(1), at(1))}, api.ErrArg},
		checkCase{"the last field of MaxWords words", full, api.ErrArg},
		checkCase{"the last root of MaxRoots, to MaxWords", all, api.ErrArg}))
}

func TestCheckSeveral(t *testing.T) {
	const none = 2 * api.MaxWords
	many := make([]uint64, api.MaxWords+1)
	ninth := row(none, at(0), at(0), at(0), at(0), at(0), at(0), at(0), at(0))
	runChecks(t, []checkCase{
		{"words too many, no headers, wrong roots", api.Arena{Words: many, Roots: row(none)}, api.ErrLarge},
		{"roots too many, and wrong", api.Arena{Roots: ninth}, api.ErrLarge},
		{"roots too many, no header", api.Arena{Words: row(0), Roots: ninth}, api.ErrLarge},
		{"roots too many, fields beyond the end", api.Arena{Words: row(head(2), none), Roots: ninth}, api.ErrLarge},
		{"a wrong root, no header", api.Arena{Words: row(0), Roots: row(none)}, api.ErrForm},
		{"a wrong root, fields beyond the end", api.Arena{Words: row(head(1)), Roots: row(at(3))}, api.ErrForm},
		{"a wrong field ahead of no header", api.Arena{Words: row(head(1), none, 0)}, api.ErrForm},
		{"a wrong reference ahead of no header", api.Arena{Words: row(head(1), at(1), head(1), of(1), of(1))}, api.ErrForm},
		{"a wrong field, and its object's fields beyond the end", api.Arena{Words: row(head(2), none)}, api.ErrForm},
		{"a wrong field ahead of fields beyond the end", api.Arena{Words: row(head(1), none, head(3), at(0), at(0))}, api.ErrForm},
		{"a wrong field and a wrong root", api.Arena{Words: row(head(1), none), Roots: row(at(1))}, api.ErrArg},
	})
}

func TestStarts(t *testing.T) {
	var each, fifth []int
	for place := range api.MaxWords {
		each = append(each, place)
		if place%5 == 0 {
			fifth = append(fifth, place)
		}
	}
	cases := []struct {
		name string
		a    api.Arena
		want []int
	}{
		{"no word at all", api.Arena{}, nil},
		{"no word, but roots", api.Arena{Roots: row(of(1), of(2))}, nil},
		{"the chapter's", api.Arena{Words: row(head(1), 11)}, []int{0}},
		{"objects of all lengths", api.Arena{Words: row(head(4), of(0), of(0), of(0), of(0), used(3, 1), of(0), of(0), of(0), head(2), of(0), of(0), head(1), of(0), used(0, 7), head(0))}, []int{0, 5, 9, 12, 14, 15}},
		{"fields that would be headers as well", api.Arena{Words: row(head(2), head(1), head(1), head(1), head(3))}, []int{0, 3}},
		{"MaxWords objects", crowd(), each},
		{"MaxWords words, all fields", block(), fifth},
	}
	for _, c := range cases {
		if l, e := arena.Starts(c.a); e != api.OK || !slices.Equal(l, c.want) {
			t.Errorf("%s: %v %d, want %v", c.name, l, e, c.want)
		}
	}
}
