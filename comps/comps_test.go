package comps_test

import (
	"math"
	"slices"
	"testing"

	"ragpicker/api"
	"ragpicker/comps"
)

// singles has the numbers from first on, by step, each alone.
func singles(first, step, n int) [][]int {
	var list [][]int
	for range n {
		list = append(list, []int{first})
		first += step
	}
	return list
}

func upTo(n int) []int {
	var list []int
	for o := range n {
		list = append(list, o)
	}
	return list
}

func TestCompsAndRound(t *testing.T) {
	cases := []struct {
		name  string
		g     api.Graph
		comps [][]int
		round []int
	}{
		{"the chapter's example", links([]int{1}, []int{0}, []int{0}), [][]int{{0, 1}, {2}}, []int{0, 1}},
		{"no object", api.Graph{}, nil, nil},
		{"no object, but roots", api.Graph{Roots: vals(num(0), num(1))}, nil, nil},
		{"one object", links(nil), [][]int{{0}}, nil},
		{"one object that refers to itself", links([]int{0}), [][]int{{0}}, []int{0}},
		{"two objects apart", links(nil, nil), [][]int{{0}, {1}}, nil},
		{"an object behind the one that it leads to", links([]int{1}, nil), [][]int{{1}, {0}}, nil},
		{"an object that is led to, and goes round by itself", links([]int{1}, []int{1}), [][]int{{1}, {0}}, []int{1}},
		{"an object that leads on, and goes round by itself", links([]int{0, 1}, nil), [][]int{{1}, {0}}, []int{0}},
		{"a ring of three, by their numbers", links([]int{2}, []int{0}, []int{1}), [][]int{{0, 1, 2}}, []int{0, 1, 2}},
		{"two rings, of which the first leads to the second", links([]int{2}, []int{3}, []int{0, 1}, []int{1}), [][]int{{1, 3}, {0, 2}}, []int{0, 1, 2, 3}},
		{"two rings that lead nowhere, mixed", links([]int{2}, []int{3}, []int{0}, []int{1}), [][]int{{0, 2}, {1, 3}}, []int{0, 1, 2, 3}},
		{"the least that may come, not the one found deepest", links([]int{3}, nil, nil, nil), [][]int{{1}, {2}, {3}, {0}}, nil},
		{"one that may come at last comes at once, if it has the least number", links([]int{2}, nil, nil, nil), [][]int{{1}, {2}, {0}, {3}}, nil},
		{"the least number is the least of all in a component, not that of the one led to", links([]int{4}, nil, nil, nil, []int{0}), [][]int{{0, 4}, {1}, {2}, {3}}, []int{0, 4}},
		{"a component waits for what any of its objects leads to", links([]int{1}, []int{0, 3}, nil, nil), [][]int{{2}, {3}, {0, 1}}, []int{0, 1}},
		{"a component waits for all, far ones too", links([]int{1, 2}, []int{3}, nil, []int{4}, nil), [][]int{{2}, {4}, {3}, {1}, {0}}, nil},
		{"one reference twice", links([]int{1, 1}, nil), [][]int{{1}, {0}}, nil},
		{"what leads to a ring does not go round", links([]int{1}, []int{2}, []int{1}, []int{0}), [][]int{{1, 2}, {0}, {3}}, []int{1, 2}},
		{"a ring through one object twice", links([]int{1, 2}, []int{0}, []int{0}), [][]int{{0, 1, 2}}, []int{0, 1, 2}},
		{"numbers lead nowhere", api.Graph{Objects: []api.Object{obj(num(1)), obj(num(0), num(1))}}, [][]int{{0}, {1}}, nil},
		{"roots change nothing", api.Graph{Objects: links(nil, nil).Objects, Roots: vals(ref(1), ref(0))}, [][]int{{0}, {1}}, nil},
		{"the longest chain up", chain(api.MaxObjects, 1), singles(api.MaxObjects-1, -1, api.MaxObjects), nil},
		{"the longest chain down", chain(api.MaxObjects, -1), singles(0, 1, api.MaxObjects), nil},
		{"the longest ring", ring(api.MaxObjects), [][]int{upTo(api.MaxObjects)}, upTo(api.MaxObjects)},
		{"the largest graph", full(), append([][]int{{api.MaxObjects - 1}}, singles(0, 1, api.MaxObjects-1)...), upTo(api.MaxObjects)},
	}
	for _, c := range cases {
		if l, e := comps.Comps(c.g); e != api.OK || !equalLists(l, c.comps) {
			t.Errorf("%s: Comps %v %d, want %v", c.name, l, e, c.comps)
		}
		if l, e := comps.Round(c.g); e != api.OK || !slices.Equal(l, c.round) {
			t.Errorf("%s: Round %v %d, want %v", c.name, l, e, c.round)
		}
	}
}

// componentOf tells by B1's words which objects are in one with o.
func componentOf(w [][]bool, o int) []int {
	var list []int
	for p := range w {
		if p == o || w[o][p] && w[p][o] {
			list = append(list, p)
		}
	}
	return list
}

// next tells by B1's words which component comes, where came are the objects of those that did: the one of the least object all of whose fellows lead, but to each other, to those alone.
func next(w [][]bool, came []int) []int {
	for o := range w {
		c := componentOf(w, o)
		isFree := !slices.Contains(came, o)
		for _, from := range c {
			for to := range w {
				if w[from][to] && !slices.Contains(c, to) && !slices.Contains(came, to) {
					isFree = false
				}
			}
		}
		if isFree {
			return c
		}
	}
	return nil
}

func TestCompsByDefinition(t *testing.T) {
	for g := range sampleGraphs() {
		l, e := comps.Comps(g)
		if e != api.OK {
			t.Fatalf("Comps of %v: %d", g, e)
		}
		w := ways(g)
		var came []int
		for at, c := range l {
			if want := next(w, came); !slices.Equal(c, want) {
				t.Fatalf("Comps of %v: %v, at %d want %v", g, l, at, want)
			}
			came = append(came, c...)
		}
		if len(came) != len(g.Objects) {
			t.Fatalf("Comps of %v: %v, which is not all", g, l)
		}
	}
}

func TestRoundByDefinition(t *testing.T) {
	for g := range sampleGraphs() {
		w := ways(g)
		var want []int
		for o := range w {
			if w[o][o] {
				want = append(want, o)
			}
		}
		if l, e := comps.Round(g); e != api.OK || !slices.Equal(l, want) {
			t.Fatalf("Round of %v: %v %d, want %v", g, l, e, want)
		}
	}
}

func TestWrongGraphs(t *testing.T) {
	tooMany := chain(api.MaxObjects+1, 1)
	tooWide := links([]int{0}, []int{0, 0, 0, 0, 0})
	tooRooted := links([]int{0})
	tooRooted.Roots = make([]api.Value, api.MaxRoots+1)
	cases := []struct {
		name string
		g    api.Graph
		want api.Errno
	}{
		{"too many objects", tooMany, api.ErrLarge},
		{"too many fields", tooWide, api.ErrLarge},
		{"too many roots", tooRooted, api.ErrLarge},
		{"a field to no object", links([]int{0}, []int{2}), api.ErrArg},
		{"a field below the objects", links([]int{0}, []int{-1}), api.ErrArg},
		{"a field far beyond the objects", api.Graph{Objects: []api.Object{obj(ref(0), ref(1<<32))}}, api.ErrArg},
		{"a root to no object", api.Graph{Objects: links([]int{0}).Objects, Roots: vals(ref(1))}, api.ErrArg},
		{"a root to none, of no objects", api.Graph{Roots: vals(ref(0))}, api.ErrArg},
		{"a field too small", api.Graph{Objects: []api.Object{obj(ref(0), num(api.MinInt-1))}}, api.ErrRange},
		{"a field too great", api.Graph{Objects: []api.Object{obj(ref(0), num(api.MaxInt+1))}}, api.ErrRange},
		{"a root out of range", api.Graph{Objects: links([]int{0}).Objects, Roots: vals(num(math.MinInt64))}, api.ErrRange},
		{"all wrong: too large, to no object, out of range", api.Graph{Objects: []api.Object{obj(num(math.MaxInt64), ref(9)), obj(ref(0), ref(0), ref(0), ref(0), ref(0))}}, api.ErrLarge},
		{"out of range ahead of too many roots", api.Graph{Objects: []api.Object{obj(num(math.MaxInt64))}, Roots: make([]api.Value, api.MaxRoots+1)}, api.ErrLarge},
		{"out of range ahead of a reference to none", api.Graph{Objects: []api.Object{obj(num(math.MaxInt64)), obj(ref(2))}, Roots: vals(num(math.MinInt64))}, api.ErrArg},
	}
	for _, c := range cases {
		if l, e := comps.Comps(c.g); e != c.want || len(l) != 0 {
			t.Errorf("%s: Comps %v %d, want %d alone", c.name, l, e, c.want)
		}
		if l, e := comps.Round(c.g); e != c.want || len(l) != 0 {
			t.Errorf("%s: Round %v %d, want %d alone", c.name, l, e, c.want)
		}
	}
}
