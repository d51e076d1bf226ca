package dom_test

import (
	"math"
	"slices"
	"testing"

	"ragpicker/api"
	"ragpicker/dom"
)

func TestRetained(t *testing.T) {
	diamond := links([]int{0}, []int{1, 2}, []int{3}, []int{3}, nil)
	cases := []struct {
		name string
		g    api.Graph
		v    int
		want []int
	}{
		{"the chapter's example: the first keeps all", diamond, 0, []int{0, 1, 2, 3}},
		{"one of two ways", diamond, 1, []int{1}},
		{"the other of two ways", diamond, 2, []int{2}},
		{"the end of both ways", diamond, 3, []int{3}},
		{"one object without fields", links([]int{0}, nil), 0, []int{0}},
		{"no roots", links(nil, []int{1}, nil), 0, nil},
		{"roots that are numbers", api.Graph{Objects: links(nil, []int{1}, nil).Objects, Roots: vals(num(0), num(1))}, 0, nil},
		{"one that can't be come to", links([]int{1}, []int{1}, nil), 0, nil},
		{"one that can't be come to, and goes round", links([]int{1}, []int{0, 2}, nil, []int{0}), 0, nil},
		{"what can't be come to keeps nobody back", links([]int{0}, []int{1}, nil, []int{1}), 0, []int{0, 1}},
		{"one that refers to itself", links([]int{0}, []int{0}), 0, []int{0}},
		{"one that refers to itself, further down", links([]int{0}, []int{1}, []int{1, 2}, nil), 1, []int{1, 2}},
		{"roots that refer to one object several times", links([]int{0, 0, 0}, []int{1}, nil), 0, []int{0, 1}},
		{"an object that refers to one several times", links([]int{0}, []int{1, 1, 1, 1}, nil), 1, []int{1}},
		{"a root to what a field refers to", links([]int{0, 1}, []int{1}, nil), 0, []int{0}},
		{"a root to what a field refers to, and all behind it", links([]int{0, 2}, []int{1}, []int{2}, []int{3}, nil), 1, []int{1}},
		{"numbers are no references", api.Graph{Objects: []api.Object{obj(num(1)), obj()}, Roots: vals(ref(0))}, 0, []int{0}},
		{"a number is no second way", api.Graph{Objects: []api.Object{obj(ref(1)), obj()}, Roots: vals(ref(0), num(1))}, 0, []int{0, 1}},
		{"told by their numbers, not as they are found", links([]int{3}, nil, []int{0}, []int{1}, []int{2}), 2, []int{0, 1, 2}},
		{"a ring behind it", links([]int{0}, []int{1}, []int{2}, []int{1}), 1, []int{1, 2}},
		{"a ring that can be come to at both", links([]int{0}, []int{1, 2}, []int{2}, []int{1}), 1, []int{1}},
		{"a way back to a keeper", links([]int{0}, []int{1}, []int{0, 2}, nil), 1, []int{1, 2}},
		{"the longest chain, from its middle", chain(api.MaxObjects), 12, upTo(api.MaxObjects)[12:]},
		{"the largest graph, a root's", full(), 0, []int{0}},
		{"the largest graph, the last object", full(), api.MaxObjects - 1, []int{api.MaxObjects - 1}},
		{"the largest graph, one that can't be come to", full(), api.MaxRoots, nil},
	}
	for _, c := range cases {
		if l, e := dom.Retained(c.g, c.v); e != api.OK || !slices.Equal(l, c.want) {
			t.Errorf("%s: Retained %v %d, want %v", c.name, l, e, c.want)
		}
	}
}

func TestIdom(t *testing.T) {
	long := upTo(api.MaxObjects)
	for o := range long {
		long[o] = o - 1
	}
	apart := make([]int, api.MaxObjects)
	large := make([]int, api.MaxObjects)
	for o := range apart {
		apart[o], large[o] = -1, -2
		if o < api.MaxRoots || o == api.MaxObjects-1 {
			large[o] = -1
		}
	}
	cases := []struct {
		name string
		g    api.Graph
		want []int
	}{
		{"the chapter's example", links([]int{0}, []int{1, 2}, []int{3}, []int{3}, nil), []int{-1, 0, 0, 0}},
		{"no object", api.Graph{}, nil},
		{"no object, but roots", api.Graph{Roots: vals(num(0), num(1))}, nil},
		{"one object without fields", links([]int{0}, nil), []int{-1}},
		{"no roots", links(nil, []int{1}, []int{0}), []int{-2, -2}},
		{"roots that are numbers", api.Graph{Objects: links(nil, []int{1}, nil).Objects, Roots: vals(num(0), num(1))}, []int{-2, -2}},
		{"some that can't be come to", links([]int{1}, []int{2}, []int{2}, nil), []int{-2, -1, 1}},
		{"one that refers to itself", links([]int{0}, []int{0}), []int{-1}},
		{"one that refers to itself, further down", links([]int{0}, []int{1}, []int{1, 2}, nil), []int{-1, 0, 1}},
		{"one that alone refers to itself", links([]int{0}, nil, []int{1}), []int{-1, -2}},
		{"roots that refer to one object several times", links([]int{0, 0, 0}, []int{1}, nil), []int{-1, 0}},
		{"an object that refers to one several times", links([]int{0}, []int{1, 1, 1, 1}, nil), []int{-1, 0}},
		{"a root to what a field refers to", links([]int{0, 1}, []int{1}, nil), []int{-1, -1}},
		{"two roots that meet", links([]int{0, 1}, []int{2}, []int{2}, []int{3}, nil), []int{-1, -1, -1, 2}},
		{"numbers are no references", api.Graph{Objects: []api.Object{obj(num(1)), obj()}, Roots: vals(ref(0))}, []int{-1, -2}},
		{"the nearest of several keepers", links([]int{2}, nil, []int{0}, []int{1}), []int{1, 2, -1}},
		{"a short way by a long one", links([]int{0}, []int{1, 3}, []int{2}, []int{3}, nil), []int{-1, 0, 1, 0}},
		{"a ring that can be come to at both", links([]int{0}, []int{1, 2}, []int{2}, []int{1}), []int{-1, 0, 0}},
		{"a way back to a keeper", links([]int{0}, []int{1}, []int{0, 2}, nil), []int{-1, 0, 1}},
		{"a way back to a root's", links([]int{0, 1}, []int{2}, nil, []int{0, 1}), []int{-1, -1, 0}},
		{"two ways that meet below a keeper", links([]int{0}, []int{1}, []int{2, 3}, []int{4}, []int{4}, []int{1}), []int{-1, 0, 1, 1, 1}},
		{"a way in from aside, told late", links([]int{0}, []int{1, 4}, []int{2}, []int{3}, []int{2}, []int{3}), []int{-1, 0, 0, 0, 0}},
		{"the longest chain", chain(api.MaxObjects), long},
		{"the longest chain there and back, from both ends", ladder(api.MaxObjects), apart},
		{"the largest graph", full(), large},
	}
	for _, c := range cases {
		if l, e := dom.Idom(c.g); e != api.OK || !slices.Equal(l, c.want) {
			t.Errorf("%s: Idom %v %d, want %v", c.name, l, e, c.want)
		}
	}
}

// there tells which objects can be come to, if no reference to without is followed, by going over all references until none tells anything new.
func there(g api.Graph, without int) []bool {
	in := make([]bool, len(g.Objects))
	again := false
	enter := func(list []api.Value) {
		for _, v := range list {
			if v.Ref && v.N != int64(without) && !in[v.N] {
				in[v.N], again = true, true
			}
		}
	}
	enter(g.Roots)
	for again {
		again = false
		for o := range in {
			if in[o] {
				enter(g.Objects[o].Fields)
			}
		}
	}
	return in
}

// retained tells by C1's words what v retains.
func retained(g api.Graph, v int) []int {
	var list []int
	with, less := there(g, -1), there(g, v)
	for o := range with {
		if with[o] && !less[o] {
			list = append(list, o)
		}
	}
	return list
}

// keptBy tells by C2's words for each object the other ones that keep it.
func keptBy(kept [][]int) [][]int {
	by := make([][]int, len(kept))
	for v, list := range kept {
		for _, o := range list {
			if o != v {
				by[o] = append(by[o], v)
			}
		}
	}
	return by
}

// isNearest tells by C2's words whether all other ones of by keep k, too.
func isNearest(kept [][]int, by []int, k int) bool {
	return !slices.ContainsFunc(by, func(v int) bool { return v != k && !slices.Contains(kept[v], k) })
}

// idom tells by C2's words what Idom must, where kept is what each object retains.
func idom(g api.Graph, kept [][]int) []int {
	by := keptBy(kept)
	var list []int
	for o, in := range there(g, -1) {
		at := slices.IndexFunc(by[o], func(k int) bool { return isNearest(kept, by[o], k) })
		switch {
		case !in:
			list = append(list, -2)
		case len(by[o]) == 0:
			list = append(list, -1)
		default:
			list = append(list, by[o][at])
		}
	}
	return list
}

func TestByDefinition(t *testing.T) {
	for g := range sampleGraphs() {
		kept := make([][]int, len(g.Objects))
		for v := range kept {
			kept[v] = retained(g, v)
			if l, e := dom.Retained(g, v); e != api.OK || !slices.Equal(l, kept[v]) {
				t.Fatalf("Retained of %v by %d: %v %d, want %v", g, v, l, e, kept[v])
			}
		}
		want := idom(g, kept)
		if l, e := dom.Idom(g); e != api.OK || !slices.Equal(l, want) {
			t.Fatalf("Idom of %v: %v %d, want %v", g, l, e, want)
		}
	}
}

func TestNoObject(t *testing.T) {
	for _, g := range []api.Graph{{}, {Roots: vals(num(0))}, links(nil, nil), links([]int{0}, []int{0}), chain(3), full()} {
		n := len(g.Objects)
		for _, v := range []int{n, n + 1, -1, -2, api.MaxObjects, 1 << 32, math.MaxInt, math.MinInt, math.MinInt + 1} {
			if l, e := dom.Retained(g, v); e != api.ErrArg || len(l) != 0 {
				t.Errorf("Retained of %v by %d: %v %d, want %d alone", g, v, l, e, api.ErrArg)
			}
		}
	}
}
