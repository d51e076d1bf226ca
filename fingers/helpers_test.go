package fingers_test

import (
	"iter"
	"slices"

	"ragpicker/api"
)

// The words are put together here as chapter 4 says, without package words.

// head is the header of an object with so many fields, not marked, of age 0.
func head(fields int) uint64 { return 0xA5<<56 | uint64(fields) }

// aged is such a header, of this age.
func aged(fields, age int) uint64 { return head(fields) | uint64(age)<<9 }

// set is the header with Mark set.
func set(h uint64) uint64 { return h | markBit }

const markBit = 1 << 8

func at(place int) uint64 { return 2 * uint64(place) }

func of(n int64) uint64 { return 2*uint64(n) + 1 }

func row(list ...uint64) []uint64 { return list }

func cloneArena(a api.Arena) api.Arena {
	return api.Arena{Words: slices.Clone(a.Words), Roots: slices.Clone(a.Roots)}
}

func equalArenas(a, b api.Arena) bool {
	return slices.Equal(a.Words, b.Words) && slices.Equal(a.Roots, b.Roots)
}

func isZeroArena(a api.Arena) bool { return len(a.Words) == 0 && len(a.Roots) == 0 }

// object has so many fields, all of them numbers that no other object of an arena has. Its number is told by its age as well, as far as that goes.
func object(fields, o int) []uint64 {
	list := row(aged(fields, o%(api.MaxAge+1)))
	for f := range fields {
		list = append(list, of(int64(1000*o+f)))
	}
	return list
}

// objects lays these objects one behind the other.
func objects(fields int, numbers ...int) (list []uint64) {
	for _, o := range numbers {
		list = append(list, object(fields, o)...)
	}
	return list
}

// upTo has the numbers below n.
func upTo(n int) (numbers []int) {
	for o := range n {
		numbers = append(numbers, o)
	}
	return numbers
}

// most is how many objects with so many fields have room in an arena.
func most(fields int) int { return api.MaxWords / (1 + fields) }

// crowd has as many objects as there may be, and the roots refer to the last ones, the very last one first.
func crowd(fields int) api.Arena {
	a := api.Arena{Words: objects(fields, upTo(most(fields))...)}
	for r := range api.MaxRoots {
		a.Roots = append(a.Roots, at((1+fields)*(most(fields)-1-r)))
	}
	return a
}

// circle has as many objects as there may be; the last field of each refers to the one that stands so many objects behind it, going round at the end.
func circle(fields, step int) api.Arena {
	n := most(fields)
	a := api.Arena{Words: objects(fields, upTo(n)...), Roots: row(at(0))}
	for o := range n {
		a.Words[(1+fields)*o+fields] = at((1 + fields) * ((o + step + n) % n))
	}
	return a
}

// dice throws the same numbers each time.
type dice uint64

func (d *dice) below(n int) int {
	*d = *d*6364136223846793005 + 1442695040888963407
	return int(uint64(*d>>33) % uint64(n))
}

func (d *dice) header(fields int) uint64 {
	h := aged(fields, d.below(api.MaxAge+1))
	if d.below(2) == 0 {
		return set(h)
	}
	return h
}

// word throws the place of one of so many objects of a size, with this chance out of eight, and else a number's word.
func (d *dice) word(many, size, chance int) uint64 {
	switch {
	case many > 0 && d.below(8) < chance:
		return at(size * d.below(many))
	case d.below(4) == 0:
		// A number whose word is a header's as well.
		return d.header(1 + 2*d.below(2))
	case d.below(4) == 0:
		// A number whose word is next to that of a reference.
		return at(d.below(api.MaxWords)) + 1
	}
	return of(int64(d.below(600)) - 300)
}

// arena throws one of at most so many words, whose objects have so many fields: some with many references and some with few.
func (d *dice) arena(words, fields int) (a api.Arena) {
	size := 1 + fields
	many := d.below(words/size + 1)
	chance := 1 + d.below(8)
	for range many {
		a.Words = append(a.Words, d.header(fields))
		for range fields {
			a.Words = append(a.Words, d.word(many, size, chance))
		}
	}
	for range d.below(api.MaxRoots + 1) {
		a.Roots = append(a.Roots, d.word(many, size, chance))
	}
	return a
}

// smallArenas goes through all rows of at most so many words out of some, each with all lists of at most so many roots out of the same; few of them are arenas.
func smallArenas(most, roots int) iter.Seq[api.Arena] {
	some := row(head(0), head(1), head(2), set(aged(1, 3)), set(head(0)), of(0), at(0), at(1), at(2), 2*api.MaxWords)
	return func(yield func(api.Arena) bool) {
		for list := range rows(some, most) {
			for from := range rows(some, roots) {
				if !yield(api.Arena{Words: list, Roots: from}) {
					return
				}
			}
		}
	}
}

// rows goes through all rows of at most so many words out of some.
func rows(some []uint64, most int) iter.Seq[[]uint64] {
	return func(yield func([]uint64) bool) {
		var grow func(list []uint64) bool
		grow = func(list []uint64) bool {
			if !yield(list) {
				return false
			}
			for _, w := range some {
				if len(list) < most && !grow(append(slices.Clone(list), w)) {
					return false
				}
			}
			return true
		}
		grow(nil)
	}
}

// shapedArenas goes through all arenas of so many objects with so many fields, each with so many roots; fields and roots are the number 1 or refer to an object. By its age each object is told from the others.
func shapedArenas(many, fields, roots int) iter.Seq[api.Arena] {
	some := row(of(1))
	for o := range many {
		some = append(some, at((1+fields)*o))
	}
	free := many*fields + roots
	return func(yield func(api.Arena) bool) {
		for list := range rows(some, free) {
			if len(list) == free && !yield(shaped(many, fields, list)) {
				return
			}
		}
	}
}

// shaped lays objects, which take of the words; what is left are the roots.
func shaped(many, fields int, list []uint64) (a api.Arena) {
	for o := range many {
		a.Words = append(a.Words, aged(fields, o))
		a.Words = append(a.Words, list[:fields]...)
		list = list[fields:]
	}
	a.Roots = list
	return a
}

// fieldsOf tells the words behind the header that stands at a place.
func fieldsOf(a api.Arena, place int) []uint64 {
	return a.Words[place+1 : place+1+int(a.Words[place]&0xFF)]
}

// slowReached tells by A2's words which objects can be come to, by their places: those of the roots, and those of the fields of such that can be, until there are no more.
func slowReached(a api.Arena) (places []int) {
	lists := [][]uint64{a.Roots}
	for len(lists) > 0 {
		list := lists[len(lists)-1]
		lists = lists[:len(lists)-1]
		for _, w := range list {
			if place := int(w / 2); w%2 == 0 && !slices.Contains(places, place) {
				places = append(places, place)
				lists = append(lists, fieldsOf(a, place))
			}
		}
	}
	slices.Sort(places)
	return places
}

// slowPlaces tells by L1's words who stands at each of the kept places, by the place at which it stood; those that can be come to are known.
func slowPlaces(reached []int, size int) (kept []int, went int) {
	for n := range reached {
		kept = append(kept, n*size)
	}
	var leave []int
	for _, place := range reached {
		if !slices.Contains(kept, place) {
			leave = append(leave, place)
		}
	}
	went = len(leave)
	slices.Reverse(leave)
	for n, place := range kept {
		if !slices.Contains(reached, place) {
			kept[n], leave = leave[0], leave[1:]
		}
	}
	return kept, went
}

// slowSqueeze tells by L1's words what Squeeze must.
func slowSqueeze(a api.Arena, fields int) (b api.Arena, went int) {
	size := 1 + fields
	kept, went := slowPlaces(slowReached(a), size)
	turned := func(list []uint64) (out []uint64) {
		for _, w := range list {
			if w%2 == 0 {
				w = at(size * slices.Index(kept, int(w/2)))
			}
			out = append(out, w)
		}
		return out
	}
	for _, place := range kept {
		b.Words = append(b.Words, a.Words[place]&^markBit)
		b.Words = append(b.Words, turned(fieldsOf(a, place))...)
	}
	b.Roots = turned(a.Roots)
	return b, went
}
