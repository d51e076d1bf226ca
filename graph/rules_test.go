package graph_test

import (
	"math"
	"slices"
	"testing"

	"ragpicker/api"
	"ragpicker/graph"
)

// wrongGraphs has graphs by what is told of them; each would have something to tell, if it were taken.
func wrongGraphs() map[api.Errno]api.Graph {
	large := full()
	large.Roots = append(large.Roots, ref(0))
	arg := api.Graph{Objects: objs(obj(), obj(ref(2))), Roots: vals(ref(0))}
	number := api.Graph{Objects: objs(obj(num(math.MinInt64))), Roots: vals(ref(0))}
	return map[api.Errno]api.Graph{api.ErrLarge: large, api.ErrArg: arg, api.ErrRange: number}
}

func TestErrorsComeAlone(t *testing.T) {
	for want, g := range wrongGraphs() {
		if l, e := graph.Reach(g); e != want || len(l) != 0 {
			t.Errorf("Reach: %v %d, want %d", l, e, want)
		}
		if l, e := graph.Dist(g); e != want || len(l) != 0 {
			t.Errorf("Dist: %v %d, want %d", l, e, want)
		}
		if c, e := graph.Canon(g); e != want || !isZeroGraph(c) {
			t.Errorf("Canon: %v %d, want %d", c, e, want)
		}
		if is, e := graph.Same(g, g); e != want || is {
			t.Errorf("Same: %v %d, want %d", is, e, want)
		}
	}
}

func TestSameTellsTheFirstOnesError(t *testing.T) {
	for ea, a := range wrongGraphs() {
		if is, e := graph.Same(a, full()); e != ea || is {
			t.Errorf("Same of a wrong one and a right one: %v %d, want %d", is, e, ea)
		}
		if is, e := graph.Same(full(), a); e != ea || is {
			t.Errorf("Same of a right one and a wrong one: %v %d, want %d", is, e, ea)
		}
		for _, b := range wrongGraphs() {
			if is, e := graph.Same(a, b); e != ea || is {
				t.Errorf("Same of two wrong ones: %v %d, want %d", is, e, ea)
			}
		}
	}
}

// behind lays wrong things behind the length of each list of g.
func behind(g api.Graph) api.Graph {
	wrong := ref(math.MaxInt64)
	lay := func(list []api.Value) []api.Value {
		return append(slices.Clone(list), wrong, wrong, wrong, wrong, wrong)[:len(list)]
	}
	b := api.Graph{Roots: lay(g.Roots)}
	for _, o := range g.Objects {
		b.Objects = append(b.Objects, api.Object{Fields: lay(o.Fields)})
	}
	b.Objects = append(b.Objects, obj(wrong, wrong, wrong, wrong, wrong))[:len(g.Objects)]
	return b
}

// wholeLists has each list of g up to its capacity.
func wholeLists(g api.Graph) api.Graph {
	w := api.Graph{Objects: slices.Clone(g.Objects[:cap(g.Objects)]), Roots: g.Roots[:cap(g.Roots)]}
	for o := range w.Objects {
		w.Objects[o].Fields = w.Objects[o].Fields[:cap(w.Objects[o].Fields)]
	}
	return w
}

func TestArgumentsStay(t *testing.T) {
	d := dice(3)
	for range 500 {
		g := d.graph()
		b := behind(g)
		before := cloneGraph(wholeLists(b))
		if e := graph.Check(b); e != api.OK {
			t.Fatalf("Check of %v: %d", b, e)
		}
		if _, e := graph.Reach(b); e != api.OK {
			t.Fatalf("Reach of %v: %d", b, e)
		}
		if _, e := graph.Dist(b); e != api.OK {
			t.Fatalf("Dist of %v: %d", b, e)
		}
		if is, e := graph.Same(b, g); e != api.OK || !is {
			t.Fatalf("Same of %v: %v %d", b, is, e)
		}
		c, _ := graph.Canon(b)
		spoil(c)
		if !equalGraphs(before, wholeLists(b)) {
			t.Fatalf("%v was changed to %v", before, wholeLists(b))
		}
	}
}

// spoil writes over all of g's lists, up to their capacities.
func spoil(g api.Graph) {
	w := wholeLists(g)
	over := func(list []api.Value) {
		for i := range list {
			list[i] = num(99)
		}
	}
	over(w.Roots)
	for _, o := range w.Objects {
		over(o.Fields)
	}
	clear(g.Objects)
}

func TestAnswersShareNothing(t *testing.T) {
	d := dice(4)
	for range 500 {
		g := d.graph()
		c, _ := graph.Canon(g)
		lists := [][]api.Value{c.Roots}
		for _, o := range c.Objects {
			lists = append(lists, o.Fields)
		}
		for at, l := range lists {
			l = l[:cap(l)]
			for i := range l {
				l[i] = num(int64(1000 + at))
			}
		}
		for at, l := range lists {
			if slices.ContainsFunc(l, func(v api.Value) bool { return v != num(int64(1000+at)) }) {
				t.Fatalf("Canon of %v: two lists share memory", g)
			}
		}
	}
}

func TestAnswersHangOnArgumentsAlone(t *testing.T) {
	d := dice(5)
	for range 200 {
		g := d.graph()
		r, _ := graph.Reach(g)
		l, _ := graph.Dist(g)
		c, _ := graph.Canon(g)
		want, dist, whole := slices.Clone(r), slices.Clone(l), cloneGraph(c)
		clear(r)
		clear(l)
		spoil(c)
		graph.Canon(d.graph())
		if r, _ := graph.Reach(g); !slices.Equal(r, want) {
			t.Fatalf("Reach of %v: %v, then %v", g, want, r)
		}
		if l, _ := graph.Dist(g); !slices.Equal(l, dist) {
			t.Fatalf("Dist of %v: %v, then %v", g, dist, l)
		}
		if c, _ := graph.Canon(g); !equalGraphs(c, whole) {
			t.Fatalf("Canon of %v: %v, then %v", g, whole, c)
		}
	}
}
