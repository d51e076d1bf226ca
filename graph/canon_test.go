package graph_test

import (
	"slices"
	"testing"

	"ragpicker/api"
	"ragpicker/graph"
)

func TestCanon(t *testing.T) {
	cases := []struct {
		name    string
		g, want api.Graph
	}{
		{"nothing at all", api.Graph{}, api.Graph{}},
		{"no roots", api.Graph{Objects: objs(obj(ref(0)), obj(num(4)))}, api.Graph{}},
		{"roots that are numbers", api.Graph{Objects: objs(obj(), obj()), Roots: vals(num(1), num(api.MinInt), num(1))}, api.Graph{Roots: vals(num(1), num(api.MinInt), num(1))}},
		{"the chapter's",
			api.Graph{Objects: objs(obj(), obj(ref(1), num(5))), Roots: vals(ref(1))},
			api.Graph{Objects: objs(obj(ref(0), num(5))), Roots: vals(ref(0))}},
		{"the roots' order",
			api.Graph{Objects: objs(obj(num(10)), obj(num(11)), obj(num(12))), Roots: vals(ref(2), num(0), ref(0), ref(2), ref(1))},
			api.Graph{Objects: objs(obj(num(12)), obj(num(10)), obj(num(11))), Roots: vals(ref(0), num(0), ref(1), ref(0), ref(2))}},
		{"all roots ahead of all fields",
			api.Graph{Objects: objs(obj(), obj(num(11)), obj(ref(1), num(12)), obj(ref(2), num(13))), Roots: vals(ref(2), ref(3))},
			api.Graph{Objects: objs(obj(ref(2), num(12)), obj(ref(0), num(13)), obj(num(11))), Roots: vals(ref(0), ref(1))}},
		{"an object's fields ahead of its fields' fields",
			api.Graph{Objects: objs(obj(ref(3), ref(1)), obj(num(11)), obj(num(12)), obj(ref(2))), Roots: vals(ref(0))},
			api.Graph{Objects: objs(obj(ref(1), ref(2)), obj(ref(3)), obj(num(11)), obj(num(12))), Roots: vals(ref(0))}},
		{"the same fields, but two objects",
			api.Graph{Objects: objs(obj(num(5)), obj(num(5))), Roots: vals(ref(1), ref(0))},
			api.Graph{Objects: objs(obj(num(5)), obj(num(5))), Roots: vals(ref(0), ref(1))}},
	}
	for _, c := range cases {
		if got, e := graph.Canon(c.g); e != api.OK || !equalGraphs(got, c.want) {
			t.Errorf("%s: %v %d, want %v", c.name, got, e, c.want)
		}
	}
}

func TestCanonOfLimits(t *testing.T) {
	g := full()
	want := api.Graph{Roots: g.Roots}
	for o := range int64(api.MaxRoots + 1) {
		want.Objects = append(want.Objects, obj(ref(o), ref(api.MaxRoots), num(api.MinInt), num(api.MaxInt)))
	}
	if got, e := graph.Canon(g); e != api.OK || !equalGraphs(got, want) {
		t.Errorf("%v %d, want %v", got, e, want)
	}
	long := chain(api.MaxObjects)
	if got, e := graph.Canon(long); e != api.OK || !equalGraphs(got, long) {
		t.Errorf("%v %d, want %v", got, e, long)
	}
}

func TestCanonLargeIsCanon(t *testing.T) {
	for g := range sampleGraphs() {
		want, _ := graph.Canon(g)
		if got, e := graph.CanonLarge(g); e != api.OK || !equalGraphs(got, want) {
			t.Fatalf("CanonLarge of %v: %v %d, want %v", g, got, e, want)
		}
	}
}

func TestCanonLargeBeyondTheLimits(t *testing.T) {
	const many = 3 * api.MaxObjects
	back := api.Graph{Objects: objs(obj()), Roots: make([]api.Value, 2*api.MaxRoots)}
	for o := range int64(many) {
		back.Objects = append(back.Objects, obj(ref(o), num(1), num(2), num(3), num(o)))
	}
	back.Roots[api.MaxRoots] = ref(many)
	want := api.Graph{Roots: make([]api.Value, 2*api.MaxRoots)}
	for o := range int64(many) {
		want.Objects = append(want.Objects, obj(ref(o+1), num(1), num(2), num(3), num(many-1-o)))
	}
	want.Objects = append(want.Objects, obj())
	want.Roots[api.MaxRoots] = ref(0)
	if got, e := graph.CanonLarge(back); e != api.OK || !equalGraphs(got, want) {
		t.Errorf("%v %d, want %v", got, e, want)
	}
	if got, e := graph.CanonLarge(chain(1000)); e != api.OK || !equalGraphs(got, chain(1000)) {
		t.Errorf("a long chain: %v %d", got, e)
	}
}

func TestCanonLargeOfWrongGraphs(t *testing.T) {
	const off = api.MaxInt + 1
	large := chain(api.MaxObjects + 1)
	large.Roots = vals(ref(0), ref(api.MaxObjects+1))
	cases := []struct {
		name string
		g    api.Graph
		want api.Errno
	}{
		{"a root to no object, large", large, api.ErrArg},
		{"a root to no object", api.Graph{Roots: vals(ref(0))}, api.ErrArg},
		{"a field to no object", api.Graph{Objects: objs(obj(ref(-1)))}, api.ErrArg},
		{"a wrong number ahead of a wrong reference", api.Graph{Objects: objs(obj(ref(1))), Roots: vals(num(off))}, api.ErrArg},
		{"a wrong number", api.Graph{Roots: vals(num(off))}, api.ErrRange},
		{"a wrong number in a field", api.Graph{Objects: objs(obj(num(api.MinInt - 1)))}, api.ErrRange},
	}
	for _, c := range cases {
		if got, e := graph.CanonLarge(c.g); e != c.want || !isZeroGraph(got) {
			t.Errorf("%s: %v %d, want %d alone", c.name, got, e, c.want)
		}
	}
}

// foundInOrder tells whether each object comes up for the first time, in the roots and then in the fields, in the order of the numbers.
func foundInOrder(g api.Graph) bool {
	next := int64(0)
	look := func(list []api.Value) bool {
		for _, v := range list {
			if v.Ref && v.N > next {
				return false
			}
			if v.Ref && v.N == next {
				next++
			}
		}
		return true
	}
	if !look(g.Roots) {
		return false
	}
	for o := range g.Objects {
		if int64(o) >= next || !look(g.Objects[o].Fields) {
			return false
		}
	}
	return true
}

func TestCanonOfMany(t *testing.T) {
	for g := range sampleGraphs() {
		c, e := graph.Canon(g)
		if e != api.OK || !foundInOrder(c) || !alike(g, c) {
			t.Fatalf("Canon of %v: %v %d", g, c, e)
		}
		there, _ := graph.Reach(g)
		if len(there) != len(c.Objects) {
			t.Fatalf("Canon of %v: %d objects, %d can be come to", g, len(c.Objects), len(there))
		}
		if again, e := graph.Canon(c); e != api.OK || !equalGraphs(c, again) {
			t.Fatalf("Canon of Canon of %v: %v %d, want %v", g, again, e, c)
		}
	}
}

// pairing goes through two graphs at once, and lets each object of the one stand for just one of the other.
type pairing struct {
	a, b api.Graph
	toB  map[int64]int64
	toA  map[int64]int64
}

// alike tells, without any numbering, whether two graphs are the same but for their objects' numbers and what can't be come to.
func alike(a, b api.Graph) bool {
	p := pairing{a, b, map[int64]int64{}, map[int64]int64{}}
	return p.lists(a.Roots, b.Roots)
}

func (p pairing) lists(x, y []api.Value) bool {
	return slices.EqualFunc(x, y, p.values)
}

func (p pairing) values(x, y api.Value) bool {
	if !x.Ref || !y.Ref {
		return x == y
	}
	there, okB := p.toB[x.N]
	back, okA := p.toA[y.N]
	if okA || okB {
		return okA && okB && there == y.N && back == x.N
	}
	p.toB[x.N], p.toA[y.N] = y.N, x.N
	return p.lists(p.a.Objects[x.N].Fields, p.b.Objects[y.N].Fields)
}

func TestSame(t *testing.T) {
	one := api.Graph{Objects: objs(obj(ref(0), num(5))), Roots: vals(ref(0))}
	twice := api.Graph{Objects: objs(obj(num(5))), Roots: vals(ref(0), ref(0))}
	cases := []struct {
		name string
		a, b api.Graph
		want bool
	}{
		{"nothing, twice", api.Graph{}, api.Graph{}, true},
		{"nil and empty", api.Graph{}, api.Graph{Objects: objs(), Roots: vals()}, true},
		{"nil and empty fields", api.Graph{Objects: objs(api.Object{}), Roots: vals(ref(0))}, api.Graph{Objects: objs(api.Object{Fields: []api.Value{}}), Roots: vals(ref(0))}, true},
		{"what can't be come to", api.Graph{}, api.Graph{Objects: objs(obj(num(1)), obj(ref(0)))}, true},
		{"the chapter's", one, api.Graph{Objects: objs(obj(), obj(ref(1), num(5))), Roots: vals(ref(1))}, true},
		{"another number", one, api.Graph{Objects: objs(obj(ref(0), num(6))), Roots: vals(ref(0))}, false},
		{"a number and a reference", api.Graph{Objects: objs(obj()), Roots: vals(ref(0))}, api.Graph{Roots: vals(num(0))}, false},
		{"a field's number and reference", api.Graph{Objects: objs(obj(ref(0))), Roots: vals(ref(0))}, api.Graph{Objects: objs(obj(num(0))), Roots: vals(ref(0))}, false},
		{"one object or two alike", twice, api.Graph{Objects: objs(obj(num(5)), obj(num(5))), Roots: vals(ref(0), ref(1))}, false},
		{"a root more", twice, api.Graph{Objects: objs(obj(num(5))), Roots: vals(ref(0))}, false},
		{"a field more", one, api.Graph{Objects: objs(obj(ref(0), num(5), num(0))), Roots: vals(ref(0))}, false},
		{"the order of roots", api.Graph{Roots: vals(num(1), num(2))}, api.Graph{Roots: vals(num(2), num(1))}, false},
		{"the order of fields", api.Graph{Objects: objs(obj(num(1), num(2))), Roots: vals(ref(0))}, api.Graph{Objects: objs(obj(num(2), num(1))), Roots: vals(ref(0))}, false},
		{"round by one or by two", api.Graph{Objects: objs(obj(ref(0))), Roots: vals(ref(0))}, api.Graph{Objects: objs(obj(ref(1)), obj(ref(0))), Roots: vals(ref(0))}, false},
	}
	for _, c := range cases {
		if is, e := graph.Same(c.a, c.b); e != api.OK || is != c.want {
			t.Errorf("%s: %v %d, want %v", c.name, is, e, c.want)
		}
		if is, e := graph.Same(c.b, c.a); e != api.OK || is != c.want {
			t.Errorf("%s, the other way round: %v %d, want %v", c.name, is, e, c.want)
		}
	}
}

func TestSameOfAllPairs(t *testing.T) {
	all := slices.Collect(smallGraphs(1))
	for _, a := range all {
		for _, b := range all {
			if is, e := graph.Same(a, b); e != api.OK || is != alike(a, b) {
				t.Fatalf("Same of %v and %v: %v %d", a, b, is, e)
			}
		}
	}
}

func TestSameUnderOtherNumbers(t *testing.T) {
	d := dice(2)
	for range 3000 {
		g := d.graph()
		m := moved(g, d.order(len(g.Objects)))
		if is, e := graph.Same(g, m); e != api.OK || !is {
			t.Fatalf("Same of %v and %v: %v %d", g, m, is, e)
		}
		c, _ := graph.Canon(g)
		k, _ := graph.Canon(m)
		if !equalGraphs(c, k) {
			t.Fatalf("Canon of %v and %v: %v and %v", g, m, c, k)
		}
	}
}
