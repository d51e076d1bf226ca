package graph_test

import (
	"iter"
	"slices"

	"ragpicker/api"
)

func num(n int64) api.Value { return api.Value{N: n} }

func ref(n int64) api.Value { return api.Value{Ref: true, N: n} }

func vals(list ...api.Value) []api.Value { return list }

func obj(list ...api.Value) api.Object { return api.Object{Fields: list} }

func objs(list ...api.Object) []api.Object { return list }

// equalGraphs takes an empty list for the same, whether nil or not.
func equalGraphs(a, b api.Graph) bool {
	return slices.Equal(a.Roots, b.Roots) && slices.EqualFunc(a.Objects, b.Objects, func(x, y api.Object) bool {
		return slices.Equal(x.Fields, y.Fields)
	})
}

func isZeroGraph(g api.Graph) bool { return len(g.Objects) == 0 && len(g.Roots) == 0 }

func cloneGraph(g api.Graph) api.Graph {
	c := api.Graph{Roots: slices.Clone(g.Roots)}
	for _, o := range g.Objects {
		c.Objects = append(c.Objects, api.Object{Fields: slices.Clone(o.Fields)})
	}
	return c
}

// full is as large as a graph may be: each object refers to itself and to the last one, and has the least and the greatest number.
func full() api.Graph {
	g := api.Graph{}
	for o := range int64(api.MaxObjects) {
		g.Objects = append(g.Objects, obj(ref(o), ref(api.MaxObjects-1), num(api.MinInt), num(api.MaxInt)))
	}
	for r := range int64(api.MaxRoots) {
		g.Roots = append(g.Roots, ref(r))
	}
	return g
}

// chain has each object refer to the next one, and the one root to the first.
func chain(n int) api.Graph {
	g := api.Graph{Roots: vals(ref(0))}
	for o := range n {
		g.Objects = append(g.Objects, obj())
		if o+1 < n {
			g.Objects[o] = obj(ref(int64(o + 1)))
		}
	}
	return g
}

// lists goes through all lists of at most most values out of some.
func lists(some []api.Value, most int) [][]api.Value {
	all := [][]api.Value{nil}
	for from := 0; most > 0; most-- {
		end := len(all)
		for _, l := range all[from:end] {
			for _, v := range some {
				all = append(all, append(slices.Clone(l), v))
			}
		}
		from = end
	}
	return all
}

// smallGraphs goes through all graphs of at most two objects, two roots and so many fields, with the numbers 0 and 1.
func smallGraphs(fields int) iter.Seq[api.Graph] {
	return func(yield func(api.Graph) bool) {
		for n := range 3 {
			some := vals(num(0), num(1))
			for o := range n {
				some = append(some, ref(int64(o)))
			}
			for _, os := range objectLists(lists(some, fields), n) {
				for _, roots := range lists(some, 2) {
					if !yield(cloneGraph(api.Graph{Objects: os, Roots: roots})) {
						return
					}
				}
			}
		}
	}
}

// objectLists goes through all lists of just n objects with such fields.
func objectLists(fields [][]api.Value, n int) [][]api.Object {
	all := [][]api.Object{nil}
	for range n {
		var next [][]api.Object
		for _, os := range all {
			for _, f := range fields {
				next = append(next, append(slices.Clone(os), api.Object{Fields: f}))
			}
		}
		all = next
	}
	return all
}

// dice throws the same numbers each time.
type dice uint64

func (d *dice) below(n int) int {
	*d = *d*6364136223846793005 + 1442695040888963407
	return int(uint64(*d>>33) % uint64(n))
}

func (d *dice) value(objects int) api.Value {
	if objects > 0 && d.below(3) > 0 {
		return ref(int64(d.below(objects)))
	}
	return num(int64(d.below(3)) - 1)
}

func (d *dice) graph() api.Graph {
	g := api.Graph{}
	n := d.below(api.MaxObjects + 1)
	for range n {
		var fields []api.Value
		for range d.below(api.MaxFields + 1) {
			fields = append(fields, d.value(n))
		}
		g.Objects = append(g.Objects, api.Object{Fields: fields})
	}
	for range d.below(api.MaxRoots + 1) {
		g.Roots = append(g.Roots, d.value(n))
	}
	return g
}

// order throws an order of the numbers below n.
func (d *dice) order(n int) []int {
	list := make([]int, n)
	for i := range list {
		j := d.below(i + 1)
		list[i] = list[j]
		list[j] = i
	}
	return list
}

// sampleGraphs goes through small graphs, all of them, and greater ones, as they fall.
func sampleGraphs() iter.Seq[api.Graph] {
	return func(yield func(api.Graph) bool) {
		for g := range smallGraphs(2) {
			if !yield(g) {
				return
			}
		}
		d := dice(1)
		for range 3000 {
			if !yield(d.graph()) {
				return
			}
		}
	}
}

// moved gives the object o of g the number to[o].
func moved(g api.Graph, to []int) api.Graph {
	turn := func(list []api.Value) []api.Value {
		out := slices.Clone(list)
		for i, v := range out {
			if v.Ref {
				out[i].N = int64(to[v.N])
			}
		}
		return out
	}
	m := api.Graph{Objects: make([]api.Object, len(g.Objects)), Roots: turn(g.Roots)}
	for o := range g.Objects {
		m.Objects[to[o]].Fields = turn(g.Objects[o].Fields)
	}
	return m
}
