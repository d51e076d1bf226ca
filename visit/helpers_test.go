package visit_test

import (
	"iter"
	"slices"

	"ragpicker/api"
)

// The words are put together here as chapter 4 says, without package words.

// head is the header of an object with so many fields, not marked, of age 0.
func head(fields int) uint64 { return 0xA5<<56 | uint64(fields) }

// aged is such a header, of this age.
func aged(fields, age int) uint64 { return head(fields) | uint64(age)<<9 }

// set is the header with Mark set.
func set(h uint64) uint64 { return h | markBit }

const markBit = 1 << 8

func at(place int) uint64 { return 2 * uint64(place) }

func of(n int64) uint64 { return 2*uint64(n) + 1 }

func row(list ...uint64) []uint64 { return list }

func places(list ...int) []int { return list }

func cloneArena(a api.Arena) api.Arena {
	return api.Arena{Words: slices.Clone(a.Words), Roots: slices.Clone(a.Roots)}
}

func equalArenas(a, b api.Arena) bool {
	return slices.Equal(a.Words, b.Words) && slices.Equal(a.Roots, b.Roots)
}

func isZeroArena(a api.Arena) bool { return len(a.Words) == 0 && len(a.Roots) == 0 }

// crowd has MaxWords objects without fields, and the roots refer to the last ones, the very last one first.
func crowd() api.Arena {
	a := api.Arena{}
	for range api.MaxWords {
		a.Words = append(a.Words, head(0))
	}
	for r := range api.MaxRoots {
		a.Roots = append(a.Roots, at(api.MaxWords-1-r))
	}
	return a
}

// chain has MaxWords words: objects with one field each, which refers to the one that stands so many objects behind it, going round at the end.
func chain(step int) api.Arena {
	const objects = api.MaxWords / 2
	a := api.Arena{Roots: row(at(0))}
	for o := range objects {
		a.Words = append(a.Words, aged(1, o%8), at(2*((o+step+objects)%objects)))
	}
	return a
}

// fours is how many objects with four fields have room in an arena.
const fours = api.MaxWords / 5

// tree has MaxWords words: objects with four fields, by which each refers to the four next ones that nobody refers to yet, and one that nobody can come to, without fields.
func tree() api.Arena {
	a := api.Arena{Roots: row(at(0))}
	for o := range fours {
		a.Words = append(a.Words, head(4))
		for f := range 4 {
			if next := 4*o + 1 + f; next < fours {
				a.Words = append(a.Words, at(5*next))
			} else {
				a.Words = append(a.Words, of(int64(next)))
			}
		}
	}
	a.Words = append(a.Words, set(head(0)))
	return a
}

// dense has MaxWords words: objects with four fields, which refer to the object itself, to both neighbours, the next one first, and to the first object; and one that nobody can come to, without fields.
func dense() api.Arena {
	a := api.Arena{Roots: row(of(0), at(5*(fours/2)))}
	for o := range fours {
		a.Words = append(a.Words, set(aged(4, o%8)), at(5*o), at(5*((o+1)%fours)), at(5*((o+fours-1)%fours)), at(0))
	}
	a.Words = append(a.Words, set(head(0)))
	return a
}

// dice throws the same numbers each time.
type dice uint64

func (d *dice) below(n int) int {
	*d = *d*6364136223846793005 + 1442695040888963407
	return int(uint64(*d>>33) % uint64(n))
}

func (d *dice) header(fields int) uint64 {
	h := aged(fields, d.below(api.MaxAge+1))
	if d.below(2) == 0 {
		return set(h)
	}
	return h
}

// word throws one of some places with this chance out of eight, and else a number's word.
func (d *dice) word(starts []int, chance int) uint64 {
	switch {
	case len(starts) > 0 && d.below(8) < chance:
		return at(starts[d.below(len(starts))])
	case d.below(4) == 0:
		// A number whose word is a header's as well.
		return d.header(1 + 2*d.below(2))
	}
	return of(int64(d.below(600)) - 300)
}

// arena throws one of at most so many words, some with many references and some with few; where its objects begin is told as well.
func (d *dice) arena(most int) (api.Arena, []int) {
	var a api.Arena
	var starts, lens []int
	most = d.below(most + 1)
	for end := 0; end < most; {
		n := d.below(min(api.MaxFields, most-end-1) + 1)
		starts, lens = append(starts, end), append(lens, n)
		end += 1 + n
	}
	chance := 1 + d.below(8)
	for _, n := range lens {
		a.Words = append(a.Words, d.header(n))
		for range n {
			a.Words = append(a.Words, d.word(starts, chance))
		}
	}
	for range d.below(api.MaxRoots + 1) {
		a.Roots = append(a.Roots, d.word(starts, chance))
	}
	return a, starts
}

// smallArenas goes through all rows of at most so many words out of some, each with no root and with each one of some; few of them are arenas.
func smallArenas(most int) iter.Seq[api.Arena] {
	some := row(head(0), head(1), head(2), set(aged(1, 3)), set(head(0)), of(0), at(0), at(1), at(2), 2*api.MaxWords)
	return func(yield func(api.Arena) bool) {
		var grow func(list []uint64) bool
		grow = func(list []uint64) bool {
			if !yield(api.Arena{Words: list}) {
				return false
			}
			for _, w := range some {
				if !yield(api.Arena{Words: list, Roots: row(w)}) {
					return false
				}
			}
			for _, w := range some {
				if len(list) < most && !grow(append(slices.Clone(list), w)) {
					return false
				}
			}
			return true
		}
		grow(nil)
	}
}

// slowOrder tells by G1's words in which order objects are come to: what is come to by a word that refers to a new one is that object, and then all that is come to by its fields.
func slowOrder(a api.Arena) (order []int) {
	var by func(w uint64)
	by = func(w uint64) {
		place := int(w / 2)
		if w%2 == 1 || slices.Contains(order, place) {
			return
		}
		order = append(order, place)
		for _, f := range a.Words[place+1 : place+1+int(a.Words[place]&0xFF)] {
			by(f)
		}
	}
	for _, w := range a.Roots {
		by(w)
	}
	return order
}

// markJust tells the arena with Mark set at these places alone, and all else as it was.
func markJust(a api.Arena, list []int) api.Arena {
	m := cloneArena(a)
	for place := 0; place < len(m.Words); place += 1 + int(m.Words[place]&0xFF) {
		m.Words[place] &^= markBit
	}
	for _, place := range list {
		m.Words[place] |= markBit
	}
	return m
}
