package slide_test

import (
	"iter"
	"slices"

	"ragpicker/api"
)

// The words are put together here as chapter 4 says, without package words.

// head is the header of an object with so many fields, not marked, of age 0.
func head(fields int) uint64 { return 0xA5<<56 | uint64(fields) }

// aged is such a header, of this age.
func aged(fields, age int) uint64 { return head(fields) | uint64(age)<<9 }

// set is the header with Mark set.
func set(h uint64) uint64 { return h | markBit }

const markBit = 1 << 8

func at(place int) uint64 { return 2 * uint64(place) }

func of(n int64) uint64 { return 2*uint64(n) + 1 }

func row(list ...uint64) []uint64 { return list }

func cloneArena(a api.Arena) api.Arena {
	return api.Arena{Words: slices.Clone(a.Words), Roots: slices.Clone(a.Roots)}
}

func equalArenas(a, b api.Arena) bool {
	return slices.Equal(a.Words, b.Words) && slices.Equal(a.Roots, b.Roots)
}

func isZeroArena(a api.Arena) bool { return len(a.Words) == 0 && len(a.Roots) == 0 }

// crowd has MaxWords objects without fields, and the roots refer to the last ones, the very last one first.
func crowd() api.Arena {
	a := api.Arena{}
	for range api.MaxWords {
		a.Words = append(a.Words, head(0))
	}
	for r := range api.MaxRoots {
		a.Roots = append(a.Roots, at(api.MaxWords-1-r))
	}
	return a
}

// chain has MaxWords words: objects with one field each, which refers to the one that stands so many objects behind it, going round at the end.
func chain(step int) api.Arena {
	const objects = api.MaxWords / 2
	a := api.Arena{Roots: row(at(0))}
	for o := range objects {
		a.Words = append(a.Words, aged(1, o%8), at(2*((o+step+objects)%objects)))
	}
	return a
}

// fours is how many objects with four fields have room in an arena.
const fours = api.MaxWords / 5

// tree has MaxWords words: an object that nobody can come to, without fields, and objects with four fields, which stand the other way round than they are found: each refers to the four next ones that nobody refers to yet, or else has numbers.
func tree() api.Arena {
	a := api.Arena{Words: row(set(head(0))), Roots: row(at(inTree(0)))}
	for o := fours - 1; o >= 0; o-- {
		a.Words = append(a.Words, aged(4, o%8))
		for f := range 4 {
			if next := 4*o + 1 + f; next < fours {
				a.Words = append(a.Words, at(inTree(next)))
			} else {
				a.Words = append(a.Words, of(int64(next)))
			}
		}
	}
	return a
}

// inTree is the place of an object of the tree.
func inTree(o int) int { return 1 + 5*(fours-1-o) }

// dense has MaxWords words: objects with four fields, which refer to the object itself, to both neighbours, the next one first, and to the first object; and one that nobody can come to, without fields.
func dense() api.Arena {
	a := api.Arena{Roots: row(of(0), at(5*(fours/2)))}
	for o := range fours {
		a.Words = append(a.Words, set(aged(4, o%8)), at(5*o), at(5*((o+1)%fours)), at(5*((o+fours-1)%fours)), at(0))
	}
	a.Words = append(a.Words, set(head(0)))
	return a
}

// dice throws the same numbers each time.
type dice uint64

func (d *dice) below(n int) int {
	*d = *d*6364136223846793005 + 1442695040888963407
	return int(uint64(*d>>33) % uint64(n))
}

func (d *dice) header(fields int) uint64 {
	h := aged(fields, d.below(api.MaxAge+1))
	if d.below(2) == 0 {
		return set(h)
	}
	return h
}

// word throws one of some places with this chance out of eight, and else a number's word.
func (d *dice) word(starts []int, chance int) uint64 {
	switch {
	case len(starts) > 0 && d.below(8) < chance:
		return at(starts[d.below(len(starts))])
	case d.below(4) == 0:
		// A number whose word is a header's as well.
		return d.header(1 + 2*d.below(2))
	}
	return of(int64(d.below(600)) - 300)
}

// arena throws one of at most so many words, some with many references and some with few; where its objects begin is told as well.
func (d *dice) arena(most int) (api.Arena, []int) {
	var a api.Arena
	var starts, lens []int
	most = d.below(most + 1)
	for end := 0; end < most; {
		n := d.below(min(api.MaxFields, most-end-1) + 1)
		starts, lens = append(starts, end), append(lens, n)
		end += 1 + n
	}
	chance := 1 + d.below(8)
	for _, n := range lens {
		a.Words = append(a.Words, d.header(n))
		for range n {
			a.Words = append(a.Words, d.word(starts, chance))
		}
	}
	for range d.below(api.MaxRoots + 1) {
		a.Roots = append(a.Roots, d.word(starts, chance))
	}
	return a, starts
}

// smallArenas goes through all rows of at most so many words out of some, each with all lists of at most so many roots out of the same; few of them are arenas.
func smallArenas(most, roots int) iter.Seq[api.Arena] {
	some := row(head(0), head(1), head(2), set(aged(1, 3)), set(head(0)), of(0), at(0), at(1), at(2), 2*api.MaxWords)
	return func(yield func(api.Arena) bool) {
		for list := range rows(some, most) {
			for from := range rows(some, roots) {
				if !yield(api.Arena{Words: list, Roots: from}) {
					return
				}
			}
		}
	}
}

// rows goes through all rows of at most so many words out of some.
func rows(some []uint64, most int) iter.Seq[[]uint64] {
	return func(yield func([]uint64) bool) {
		var grow func(list []uint64) bool
		grow = func(list []uint64) bool {
			if !yield(list) {
				return false
			}
			for _, w := range some {
				if len(list) < most && !grow(append(slices.Clone(list), w)) {
					return false
				}
			}
			return true
		}
		grow(nil)
	}
}

// shapedArenas goes through all arenas whose objects have so many fields, with each two roots; fields and roots are the number 1 or refer to an object.
func shapedArenas(lens ...int) iter.Seq[api.Arena] {
	some := row(of(1))
	end := 0
	for _, n := range lens {
		some = append(some, at(end))
		end += 1 + n
	}
	fields := end - len(lens)
	return func(yield func(api.Arena) bool) {
		for list := range rows(some, fields+2) {
			if len(list) == fields+2 && !yield(shaped(lens, list)) {
				return
			}
		}
	}
}

// shaped lays objects with so many fields, which take of the words; what is left are the roots. By its age each object is told from the others.
func shaped(lens []int, list []uint64) (a api.Arena) {
	for o, n := range lens {
		a.Words = append(a.Words, aged(n, o))
		a.Words = append(a.Words, list[:n]...)
		list = list[n:]
	}
	a.Roots = list
	return a
}

// fieldsOf tells the words behind the header that stands at a place.
func fieldsOf(a api.Arena, place int) []uint64 {
	return a.Words[place+1 : place+1+int(a.Words[place]&0xFF)]
}

// slowReached tells by A2's words which objects can be come to, by their places: those of the roots, and those of the fields of such that can be, until there are no more.
func slowReached(a api.Arena) (places []int) {
	lists := [][]uint64{a.Roots}
	for len(lists) > 0 {
		list := lists[len(lists)-1]
		lists = lists[:len(lists)-1]
		for _, w := range list {
			if place := int(w / 2); w%2 == 0 && !slices.Contains(places, place) {
				places = append(places, place)
				lists = append(lists, fieldsOf(a, place))
			}
		}
	}
	slices.Sort(places)
	return places
}

// slowSlide tells by K1's words what Slide must, once it is known which objects there are: where one stands now is how many words those have that stand further down and stay.
func slowSlide(a api.Arena, stay []int) (b api.Arena) {
	turned := func(list []uint64) (out []uint64) {
		for _, w := range list {
			if w%2 == 0 {
				below := 0
				for _, place := range stay {
					if place < int(w/2) {
						below += 1 + len(fieldsOf(a, place))
					}
				}
				w = at(below)
			}
			out = append(out, w)
		}
		return out
	}
	for _, place := range stay {
		b.Words = append(b.Words, a.Words[place]&^markBit)
		b.Words = append(b.Words, turned(fieldsOf(a, place))...)
	}
	b.Roots = turned(a.Roots)
	return b
}
