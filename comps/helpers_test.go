package comps_test

import (
	"iter"
	"slices"

	"ragpicker/api"
)

func num(n int64) api.Value { return api.Value{N: n} }

func ref(n int64) api.Value { return api.Value{Ref: true, N: n} }

func vals(list ...api.Value) []api.Value { return list }

func obj(list ...api.Value) api.Object { return api.Object{Fields: list} }

// links makes a graph without roots, by the objects that each one refers to.
func links(list ...[]int) api.Graph {
	g := api.Graph{}
	for _, to := range list {
		var fields []api.Value
		for _, o := range to {
			fields = append(fields, ref(int64(o)))
		}
		g.Objects = append(g.Objects, api.Object{Fields: fields})
	}
	return g
}

// chain has each object refer to the one that lies by further on, as far as there is one.
func chain(n, by int) api.Graph {
	list := make([][]int, n)
	for o := range n {
		if to := o + by; to >= 0 && to < n {
			list[o] = []int{to}
		}
	}
	return links(list...)
}

// ring has each object refer to the next one, and the last one to the first.
func ring(n int) api.Graph {
	list := make([][]int, n)
	for o := range n {
		list[o] = []int{(o + 1) % n}
	}
	return links(list...)
}

// full is as large as a graph may be: each object refers to itself and to the last one, and has the least and the greatest number.
func full() api.Graph {
	g := api.Graph{}
	for o := range int64(api.MaxObjects) {
		g.Objects = append(g.Objects, obj(ref(o), ref(api.MaxObjects-1), num(api.MinInt), num(api.MaxInt)))
	}
	for r := range int64(api.MaxRoots) {
		g.Roots = append(g.Roots, ref(r))
	}
	return g
}

func cloneGraph(g api.Graph) api.Graph {
	c := api.Graph{Roots: slices.Clone(g.Roots)}
	for _, o := range g.Objects {
		c.Objects = append(c.Objects, api.Object{Fields: slices.Clone(o.Fields)})
	}
	return c
}

func equalGraphs(a, b api.Graph) bool {
	return slices.Equal(a.Roots, b.Roots) && slices.EqualFunc(a.Objects, b.Objects, func(x, y api.Object) bool {
		return slices.Equal(x.Fields, y.Fields)
	})
}

// equalLists takes an empty list for the same, whether nil or not.
func equalLists(a, b [][]int) bool {
	return slices.EqualFunc(a, b, func(x, y []int) bool { return slices.Equal(x, y) })
}

func cloneLists(list [][]int) [][]int {
	var out [][]int
	for _, l := range list {
		out = append(out, slices.Clone(l))
	}
	return out
}

// dice throws the same numbers each time.
type dice uint64

func (d *dice) below(n int) int {
	*d = *d*6364136223846793005 + 1442695040888963407
	return int(uint64(*d>>33) % uint64(n))
}

// value throws a reference in so many of eight throws.
func (d *dice) value(objects, often int) api.Value {
	if objects > 0 && d.below(8) < often {
		return ref(int64(d.below(objects)))
	}
	// A number that would be an object, were it taken for a reference.
	return num(int64(d.below(3)))
}

// graph throws one in which references are rare or frequent: so that there are many small components in some, and a great one in others.
func (d *dice) graph() api.Graph {
	g := api.Graph{}
	n := d.below(api.MaxObjects + 1)
	often := d.below(9)
	for range n {
		var fields []api.Value
		for range d.below(api.MaxFields + 1) {
			fields = append(fields, d.value(n, often))
		}
		g.Objects = append(g.Objects, api.Object{Fields: fields})
	}
	for range d.below(api.MaxRoots + 1) {
		g.Roots = append(g.Roots, d.value(n, often))
	}
	return g
}

// allLinks goes through all graphs of just n objects, as to which refers to which.
func allLinks(n int) iter.Seq[api.Graph] {
	return func(yield func(api.Graph) bool) {
		for bits := range 1 << (n * n) {
			list := make([][]int, n)
			for at := range n * n {
				if bits>>at&1 == 1 {
					list[at/n] = append(list[at/n], at%n)
				}
			}
			if !yield(links(list...)) {
				return
			}
		}
	}
}

// sampleGraphs goes through all small graphs, and greater ones, as they fall.
func sampleGraphs() iter.Seq[api.Graph] {
	return func(yield func(api.Graph) bool) {
		for n := range 5 {
			for g := range allLinks(n) {
				if !yield(g) {
					return
				}
			}
		}
		d := dice(1)
		for range 4000 {
			if !yield(d.graph()) {
				return
			}
		}
	}
}

// ways tells for each two objects whether the one leads to the other, by going over each object between them.
func ways(g api.Graph) [][]bool {
	n := len(g.Objects)
	w := make([][]bool, n)
	for o := range w {
		w[o] = make([]bool, n)
		for _, v := range g.Objects[o].Fields {
			if v.Ref {
				w[o][v.N] = true
			}
		}
	}
	for over := range n {
		for from := range n {
			for to := range n {
				w[from][to] = w[from][to] || w[from][over] && w[over][to]
			}
		}
	}
	return w
}
