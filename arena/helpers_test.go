package arena_test

import (
	"iter"
	"slices"

	"ragpicker/api"
)

func num(n int64) api.Value { return api.Value{N: n} }

func ref(n int64) api.Value { return api.Value{Ref: true, N: n} }

func vals(list ...api.Value) []api.Value { return list }

func obj(list ...api.Value) api.Object { return api.Object{Fields: list} }

func objs(list ...api.Object) []api.Object { return list }

// The words are put together here as chapter 4 says, without package words.

// head is the header of an object with so many fields, not marked, of age 0.
func head(fields int) uint64 { return 0xA5<<56 | uint64(fields) }

// used is such a header, marked, of this age.
func used(fields, age int) uint64 { return head(fields) | 1<<8 | uint64(age)<<9 }

func at(place int) uint64 { return 2 * uint64(place) }

func of(n int64) uint64 { return 2*uint64(n) + 1 }

func row(list ...uint64) []uint64 { return list }

func cloneArena(a api.Arena) api.Arena {
	return api.Arena{Words: slices.Clone(a.Words), Roots: slices.Clone(a.Roots)}
}

func equalArenas(a, b api.Arena) bool {
	return slices.Equal(a.Words, b.Words) && slices.Equal(a.Roots, b.Roots)
}

func isZeroArena(a api.Arena) bool { return len(a.Words) == 0 && len(a.Roots) == 0 }

func cloneGraph(g api.Graph) api.Graph {
	c := api.Graph{Roots: slices.Clone(g.Roots)}
	for _, o := range g.Objects {
		c.Objects = append(c.Objects, api.Object{Fields: slices.Clone(o.Fields)})
	}
	return c
}

// equalGraphs takes an empty list for the same, whether nil or not.
func equalGraphs(a, b api.Graph) bool {
	return slices.Equal(a.Roots, b.Roots) && slices.EqualFunc(a.Objects, b.Objects, func(x, y api.Object) bool {
		return slices.Equal(x.Fields, y.Fields)
	})
}

func isZeroGraph(g api.Graph) bool { return len(g.Objects) == 0 && len(g.Roots) == 0 }

// fullGraph is as large as a graph may be: each object refers to itself and to the last one, and has the least and the greatest number.
func fullGraph() api.Graph {
	g := api.Graph{}
	for o := range int64(api.MaxObjects) {
		g.Objects = append(g.Objects, obj(ref(o), ref(api.MaxObjects-1), num(api.MinInt), num(api.MaxInt)))
	}
	for r := range int64(api.MaxRoots) {
		g.Roots = append(g.Roots, ref(api.MaxObjects-1-r))
	}
	return g
}

// crowd has MaxWords objects without fields, and the roots refer to the last ones.
func crowd() api.Arena {
	a := api.Arena{}
	for range api.MaxWords {
		a.Words = append(a.Words, head(0))
	}
	for r := range api.MaxRoots {
		a.Roots = append(a.Roots, at(api.MaxWords-1-r))
	}
	return a
}

// block has MaxWords words: objects with MaxFields fields, each of which refers to itself and to the last object, and that one, without fields.
func block() api.Arena {
	a := api.Arena{Roots: row(at(0), at(api.MaxWords-1))}
	for len(a.Words)+1+api.MaxFields < api.MaxWords {
		here := len(a.Words)
		a.Words = append(a.Words, used(api.MaxFields, here%8), at(here), at(api.MaxWords-1), of(api.MinInt), of(api.MaxInt))
	}
	a.Words = append(a.Words, head(0))
	return a
}

// dice throws the same numbers each time.
type dice uint64

func (d *dice) below(n int) int {
	*d = *d*6364136223846793005 + 1442695040888963407
	return int(uint64(*d>>33) % uint64(n))
}

// number throws one of all lengths, and often one that would be an object or a place.
func (d *dice) number() int64 {
	if d.below(2) == 0 {
		return int64(d.below(5)) - 1
	}
	n := (int64(d.below(1<<31))<<31 | int64(d.below(1<<31))) >> d.below(62)
	if d.below(2) == 0 {
		return -n
	}
	return n
}

func (d *dice) value(objects int) api.Value {
	if objects > 0 && d.below(3) > 0 {
		return ref(int64(d.below(objects)))
	}
	return num(d.number())
}

func (d *dice) graph() api.Graph {
	g := api.Graph{}
	n := d.below(api.MaxObjects + 1)
	for range n {
		var fields []api.Value
		for range d.below(api.MaxFields + 1) {
			fields = append(fields, d.value(n))
		}
		g.Objects = append(g.Objects, api.Object{Fields: fields})
	}
	for range d.below(api.MaxRoots + 1) {
		g.Roots = append(g.Roots, d.value(n))
	}
	return g
}

// word throws a number's word, or that of a reference to one of these places.
func (d *dice) word(starts []int) uint64 {
	switch {
	case len(starts) > 0 && d.below(3) > 0:
		return at(starts[d.below(len(starts))])
	case d.below(4) == 0:
		// A number whose word is a header's as well.
		return head(1 + 2*d.below(2))
	}
	return of(d.number())
}

// arena throws one of at most so many words, of objects of all kinds; where its objects begin is told as well.
func (d *dice) arena(most int) (api.Arena, []int) {
	var a api.Arena
	var starts, lens []int
	most = d.below(most + 1)
	for end := 0; end < most; {
		n := d.below(min(api.MaxFields, most-end-1) + 1)
		starts, lens = append(starts, end), append(lens, n)
		end += 1 + n
	}
	for _, n := range lens {
		h := head(n)
		if d.below(2) == 0 {
			h = used(n, d.below(api.MaxAge+1))
		}
		a.Words = append(a.Words, h)
		for range n {
			a.Words = append(a.Words, d.word(starts))
		}
	}
	for range d.below(api.MaxRoots + 1) {
		a.Roots = append(a.Roots, d.word(starts))
	}
	return a, starts
}

// smallArenas goes through all rows of at most so many words out of some, each with no root and with each one of some; few of them are arenas.
func smallArenas(most int) iter.Seq[api.Arena] {
	some := row(head(0), head(1), head(2), used(1, 3), of(0), at(0), at(1), at(2), 2*api.MaxWords)
	return func(yield func(api.Arena) bool) {
		var grow func(list []uint64) bool
		grow = func(list []uint64) bool {
			if !yield(api.Arena{Words: list}) {
				return false
			}
			for _, w := range some {
				if !yield(api.Arena{Words: list, Roots: row(w)}) {
					return false
				}
			}
			for _, w := range some {
				if len(list) < most && !grow(append(slices.Clone(list), w)) {
					return false
				}
			}
			return true
		}
		grow(nil)
	}
}
