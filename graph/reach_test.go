package graph_test

import (
	"slices"
	"testing"

	"ragpicker/api"
	"ragpicker/graph"
)

func TestReachAndDist(t *testing.T) {
	long := chain(api.MaxObjects)
	var all []int
	for o := range api.MaxObjects {
		all = append(all, o)
	}
	cases := []struct {
		name  string
		g     api.Graph
		reach []int
		dist  []int
	}{
		{"nothing at all", api.Graph{}, nil, nil},
		{"no roots", api.Graph{Objects: objs(obj(ref(1)), obj(ref(0)))}, nil, []int{-1, -1}},
		{"a number is no reference", api.Graph{Objects: objs(obj(num(1)), obj()), Roots: vals(num(1), ref(0))}, []int{0}, []int{0, -1}},
		{"the chapter's", api.Graph{Objects: objs(obj(), obj(ref(1), num(5))), Roots: vals(ref(1))}, []int{1}, []int{-1, 0}},
		{"found late, told by number", api.Graph{Objects: objs(obj(), obj(ref(0)), obj(ref(1))), Roots: vals(ref(2))}, []int{0, 1, 2}, []int{2, 1, 0}},
		{"a short way behind a long one", api.Graph{Objects: objs(obj(ref(1), ref(3)), obj(ref(2)), obj(ref(3)), obj()), Roots: vals(ref(0))}, []int{0, 1, 2, 3}, []int{0, 1, 2, 1}},
		{"a later root is nearer", api.Graph{Objects: objs(obj(ref(1)), obj(ref(2)), obj()), Roots: vals(ref(0), num(9), ref(2))}, []int{0, 1, 2}, []int{0, 1, 0}},
		{"round, and who leads into it", api.Graph{Objects: objs(obj(ref(1)), obj(ref(0)), obj(ref(0))), Roots: vals(ref(1), ref(1))}, []int{0, 1}, []int{1, 0, -1}},
		{"a chain", long, all, all},
	}
	for _, c := range cases {
		if l, e := graph.Reach(c.g); e != api.OK || !slices.Equal(l, c.reach) {
			t.Errorf("%s: Reach: %v %d, want %v", c.name, l, e, c.reach)
		}
		if l, e := graph.Dist(c.g); e != api.OK || !slices.Equal(l, c.dist) {
			t.Errorf("%s: Dist: %v %d, want %v", c.name, l, e, c.dist)
		}
	}
}

// shorten lets each object that a list of values refers to be at most d away; it tells whether one came nearer.
func shorten(dist []int, list []api.Value, d int) bool {
	nearer := false
	for _, v := range list {
		if v.Ref && (dist[v.N] < 0 || dist[v.N] > d) {
			dist[v.N], nearer = d, true
		}
	}
	return nearer
}

// slowDist shortens ways until there is none to shorten any more.
func slowDist(g api.Graph) []int {
	dist := make([]int, len(g.Objects))
	for o := range dist {
		dist[o] = -1
	}
	for again := shorten(dist, g.Roots, 0); again; {
		again = false
		for o := range dist {
			if dist[o] >= 0 && shorten(dist, g.Objects[o].Fields, dist[o]+1) {
				again = true
			}
		}
	}
	return dist
}

func TestReachAndDistOfMany(t *testing.T) {
	for g := range sampleGraphs() {
		want := slowDist(g)
		dist, e := graph.Dist(g)
		if e != api.OK || !slices.Equal(dist, want) {
			t.Fatalf("Dist of %v: %v %d, want %v", g, dist, e, want)
		}
		var there []int
		for o, d := range want {
			if d >= 0 {
				there = append(there, o)
			}
		}
		if l, e := graph.Reach(g); e != api.OK || !slices.Equal(l, there) {
			t.Fatalf("Reach of %v: %v %d, want %v", g, l, e, there)
		}
	}
}

func TestRefs(t *testing.T) {
	list := vals(num(7), ref(2), num(2), ref(0), ref(2))
	if got := slices.Collect(graph.Refs(list)); !slices.Equal(got, []int{2, 0, 2}) {
		t.Errorf("Refs: %v", got)
	}
	for o := range graph.Refs(list) {
		if o != 2 {
			t.Errorf("Refs: %d first", o)
		}
		break
	}
	for o := range graph.Refs(nil) {
		t.Errorf("Refs of nothing: %d", o)
	}
}
