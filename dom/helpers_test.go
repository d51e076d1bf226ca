package dom_test

import (
	"iter"
	"slices"

	"ragpicker/api"
)

func num(n int64) api.Value { return api.Value{N: n} }

func ref(n int64) api.Value { return api.Value{Ref: true, N: n} }

func vals(list ...api.Value) []api.Value { return list }

func obj(list ...api.Value) api.Object { return api.Object{Fields: list} }

func refs(list []int) []api.Value {
	var out []api.Value
	for _, o := range list {
		out = append(out, ref(int64(o)))
	}
	return out
}

// links makes a graph by the objects that its roots, and then each object, refer to.
func links(roots []int, list ...[]int) api.Graph {
	g := api.Graph{Roots: refs(roots)}
	for _, to := range list {
		g.Objects = append(g.Objects, api.Object{Fields: refs(to)})
	}
	return g
}

// chain has each object refer to the next one, and the root to the first.
func chain(n int) api.Graph {
	list := make([][]int, n)
	for o := range n - 1 {
		list[o] = []int{o + 1}
	}
	return links([]int{0}, list...)
}

// ladder has each object refer to the next one and to the one before, and the roots to the first and the last.
func ladder(n int) api.Graph {
	g := chain(n)
	for o := 1; o < n; o++ {
		g.Objects[o].Fields = append(g.Objects[o].Fields, ref(int64(o-1)))
	}
	g.Roots = vals(ref(0), ref(int64(n-1)))
	return g
}

// full is as large as a graph may be: each object refers to itself and to the last one, and has the least and the greatest number.
func full() api.Graph {
	g := api.Graph{}
	for o := range int64(api.MaxObjects) {
		g.Objects = append(g.Objects, obj(ref(o), ref(api.MaxObjects-1), num(api.MinInt), num(api.MaxInt)))
	}
	for r := range int64(api.MaxRoots) {
		g.Roots = append(g.Roots, ref(r))
	}
	return g
}

func upTo(n int) []int {
	var list []int
	for o := range n {
		list = append(list, o)
	}
	return list
}

func cloneGraph(g api.Graph) api.Graph {
	c := api.Graph{Roots: slices.Clone(g.Roots)}
	for _, o := range g.Objects {
		c.Objects = append(c.Objects, api.Object{Fields: slices.Clone(o.Fields)})
	}
	return c
}

func equalGraphs(a, b api.Graph) bool {
	return slices.Equal(a.Roots, b.Roots) && slices.EqualFunc(a.Objects, b.Objects, func(x, y api.Object) bool {
		return slices.Equal(x.Fields, y.Fields)
	})
}

// dice throws the same numbers each time.
type dice uint64

func (d *dice) below(n int) int {
	*d = *d*6364136223846793005 + 1442695040888963407
	return int(uint64(*d>>33) % uint64(n))
}

// value throws a reference in so many of eight throws.
func (d *dice) value(objects, often int) api.Value {
	if objects > 0 && d.below(8) < often {
		return ref(int64(d.below(objects)))
	}
	// A number that would be an object, were it taken for a reference.
	return num(int64(d.below(3)))
}

// graph throws one in which references are rare or frequent, and roots as well: so that keepers stand close in some, and far in others.
func (d *dice) graph() api.Graph {
	g := api.Graph{}
	n := d.below(api.MaxObjects + 1)
	often := 2 + d.below(7)
	for range n {
		var fields []api.Value
		for range d.below(api.MaxFields + 1) {
			fields = append(fields, d.value(n, often))
		}
		g.Objects = append(g.Objects, api.Object{Fields: fields})
	}
	for range d.below(1 + d.below(api.MaxRoots+1)) {
		g.Roots = append(g.Roots, d.value(n, 7))
	}
	return g
}

// chosen tells which numbers below n stand in bits.
func chosen(bits, n int) []int {
	var list []int
	for o := range n {
		if bits>>o&1 == 1 {
			list = append(list, o)
		}
	}
	return list
}

// allLinks goes through all graphs of just n objects with these roots, as to which refers to which.
func allLinks(roots []int, n int) iter.Seq[api.Graph] {
	return func(yield func(api.Graph) bool) {
		for bits := range 1 << (n * n) {
			list := make([][]int, n)
			for o := range n {
				list[o] = chosen(bits>>(o*n), n)
			}
			if !yield(links(roots, list...)) {
				return
			}
		}
	}
}

// sampleGraphs goes through all small graphs, and greater ones, as they fall. Of those with four objects it takes one or two roots alone: which ones, does not matter.
func sampleGraphs() iter.Seq[api.Graph] {
	return func(yield func(api.Graph) bool) {
		all := func(graphs iter.Seq[api.Graph]) bool {
			for g := range graphs {
				if !yield(g) {
					return false
				}
			}
			return true
		}
		for n := range 4 {
			for roots := range 1 << n {
				if !all(allLinks(chosen(roots, n), n)) {
					return
				}
			}
		}
		_ = all(allLinks([]int{1}, 4)) && all(allLinks([]int{0, 2}, 4)) && all(thrown(6000))
	}
}

func thrown(n int) iter.Seq[api.Graph] {
	return func(yield func(api.Graph) bool) {
		d := dice(1)
		for range n {
			if !yield(d.graph()) {
				return
			}
		}
	}
}
