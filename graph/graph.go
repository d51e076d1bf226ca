// Package graph has objects and the references between them: whether a graph is one, what can be come to in it, and its form that hangs on no numbering.
package graph

import (
	"iter"
	"slices"

	"ragpicker/api"
)

// Check tells the first error of g, if it has one.
func Check(g api.Graph) api.Errno {
	if isLarge(g) {
		return api.ErrLarge
	}
	return checkValues(g)
}

// Reach tells the objects that can be come to, by their numbers.
func Reach(g api.Graph) ([]int, api.Errno) {
	if e := Check(g); e != api.OK {
		return nil, e
	}
	list := search(g).order
	slices.Sort(list)
	return list, api.OK
}

// Dist tells for each object how many fields it is away from the roots, or -1.
func Dist(g api.Graph) ([]int, api.Errno) {
	if e := Check(g); e != api.OK {
		return nil, e
	}
	f := search(g)
	list := make([]int, len(g.Objects))
	for o := range list {
		list[o] = -1
		if at, ok := f.place[o]; ok {
			list[o] = f.dist[at]
		}
	}
	return list, api.OK
}

// Canon tells the objects that can be come to, numbered in the order in which they are found.
func Canon(g api.Graph) (api.Graph, api.Errno) {
	if isLarge(g) {
		return api.Graph{}, api.ErrLarge
	}
	return CanonLarge(g)
}

// CanonLarge tells what Canon does, and tells it of a graph beyond the limits as well: a memory may have come to more objects than a graph that is handed in may have.
func CanonLarge(g api.Graph) (api.Graph, api.Errno) {
	if e := checkValues(g); e != api.OK {
		return api.Graph{}, e
	}
	f := search(g)
	c := api.Graph{Roots: renumber(g.Roots, f.place)}
	for _, o := range f.order {
		c.Objects = append(c.Objects, api.Object{Fields: renumber(g.Objects[o].Fields, f.place)})
	}
	return c, api.OK
}

// Same tells whether Canon of both is the same.
func Same(a, b api.Graph) (bool, api.Errno) {
	ca, e := Canon(a)
	if e != api.OK {
		return false, e
	}
	cb, e := Canon(b)
	if e != api.OK {
		return false, e
	}
	return equal(ca, cb), api.OK
}

func isLarge(g api.Graph) bool {
	if len(g.Objects) > api.MaxObjects || len(g.Roots) > api.MaxRoots {
		return true
	}
	return slices.ContainsFunc(g.Objects, func(o api.Object) bool { return len(o.Fields) > api.MaxFields })
}

func checkValues(g api.Graph) api.Errno {
	// Two rounds: a wrong reference is told ahead of a wrong number, wherever both stand.
	for v := range values(g) {
		if v.Ref && !isObject(g, v.N) {
			return api.ErrArg
		}
	}
	for v := range values(g) {
		if !v.Ref && !isNumber(v.N) {
			return api.ErrRange
		}
	}
	return api.OK
}

func isObject(g api.Graph, n int64) bool {
	return n >= 0 && n < int64(len(g.Objects))
}

func isNumber(n int64) bool {
	return n >= api.MinInt && n <= api.MaxInt
}

// values goes through all roots, then through all fields.
func values(g api.Graph) iter.Seq[api.Value] {
	return func(yield func(api.Value) bool) {
		for _, v := range g.Roots {
			if !yield(v) {
				return
			}
		}
		for _, o := range g.Objects {
			for _, v := range o.Fields {
				if !yield(v) {
					return
				}
			}
		}
	}
}

// Refs goes through the objects that a list of values refers to.
func Refs(list []api.Value) iter.Seq[int] {
	return func(yield func(int) bool) {
		for _, v := range list {
			if v.Ref && !yield(int(v.N)) {
				return
			}
		}
	}
}

// found is what a search came to.
type found struct {
	order []int       // objects, as they were found
	dist  []int       // for each of order: the fields from a root to it
	place map[int]int // where each object stands in order
}

// search goes breadth first: so the order is Canon's, and each object is found by as few fields as can be.
// The graph's references must be to objects.
func search(g api.Graph) found {
	f := found{place: map[int]int{}}
	find := func(list []api.Value, dist int) {
		for o := range Refs(list) {
			if _, ok := f.place[o]; !ok {
				f.place[o] = len(f.order)
				f.order = append(f.order, o)
				f.dist = append(f.dist, dist)
			}
		}
	}
	find(g.Roots, 0)
	for at := 0; at < len(f.order); at++ {
		find(g.Objects[f.order[at]].Fields, f.dist[at]+1)
	}
	return f
}

// renumber copies a list of values, with each reference turned to where its object stands.
func renumber(list []api.Value, place map[int]int) []api.Value {
	out := make([]api.Value, len(list))
	for i, v := range list {
		if v.Ref {
			v.N = int64(place[int(v.N)])
		}
		out[i] = v
	}
	return out
}

func equal(a, b api.Graph) bool {
	return slices.Equal(a.Roots, b.Roots) && slices.EqualFunc(a.Objects, b.Objects, func(x, y api.Object) bool {
		return slices.Equal(x.Fields, y.Fields)
	})
}
