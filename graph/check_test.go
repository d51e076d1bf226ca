package graph_test

import (
	"math"
	"testing"

	"ragpicker/api"
	"ragpicker/graph"
)

type checkCase struct {
	name string
	g    api.Graph
	want api.Errno
}

func runChecks(t *testing.T, cases []checkCase) {
	t.Helper()
	for _, c := range cases {
		if e := graph.Check(c.g); e != c.want {
			t.Errorf("%s: got %d, want %d", c.name, e, c.want)
		}
	}
}

func TestCheckTakesGraphs(t *testing.T) {
	runChecks(t, []checkCase{
		{"nothing at all", api.Graph{}, api.OK},
		{"empty lists", api.Graph{Objects: objs(), Roots: vals()}, api.OK},
		{"roots that are numbers", api.Graph{Roots: vals(num(0), num(-1), num(100))}, api.OK},
		{"an object that refers to itself", api.Graph{Objects: objs(obj(ref(0)))}, api.OK},
		{"the last object", api.Graph{Objects: objs(obj(), obj(ref(1))), Roots: vals(ref(1))}, api.OK},
		{"numbers that are no objects", api.Graph{Objects: objs(obj(num(1), num(-1), num(24))), Roots: vals(num(7))}, api.OK},
		{"the least and the greatest number", api.Graph{Objects: objs(obj(num(api.MinInt), num(api.MaxInt))), Roots: vals(num(api.MaxInt), num(api.MinInt))}, api.OK},
		{"all limits at once", full(), api.OK},
	})
}

func TestCheckLarge(t *testing.T) {
	objects, roots, fields, last := full(), full(), full(), full()
	objects.Objects = append(objects.Objects, obj())
	roots.Roots = append(roots.Roots, num(0))
	fields.Objects[0].Fields = append(fields.Objects[0].Fields, num(0))
	last.Objects[api.MaxObjects-1].Fields = append(last.Objects[api.MaxObjects-1].Fields, num(0))
	runChecks(t, []checkCase{
		{"an object too many", objects, api.ErrLarge},
		{"a root too many", roots, api.ErrLarge},
		{"a field too many", fields, api.ErrLarge},
		{"a field too many in the last object", last, api.ErrLarge},
		{"only objects, far too many", api.Graph{Objects: make([]api.Object, 100000)}, api.ErrLarge},
		{"only roots, far too many", api.Graph{Roots: make([]api.Value, 100000)}, api.ErrLarge},
		{"only fields, far too many", api.Graph{Objects: objs(obj(), obj(make([]api.Value, 100000)...))}, api.ErrLarge},
	})
}

func TestCheckArg(t *testing.T) {
	for _, n := range []int64{-1, 2, 3, 24, 1 << 32, 1<<32 + 1, api.MinInt, api.MaxInt, api.MinInt - 1, api.MaxInt + 1, math.MinInt64, math.MinInt64 + 1, math.MaxInt64} {
		runChecks(t, []checkCase{
			{"a root", api.Graph{Objects: objs(obj(), obj()), Roots: vals(num(0), ref(n))}, api.ErrArg},
			{"a field", api.Graph{Objects: objs(obj(num(1), ref(n)), obj()), Roots: vals(ref(0))}, api.ErrArg},
			{"a field of what can't be come to", api.Graph{Objects: objs(obj(), obj(ref(0), ref(n))), Roots: vals(ref(0))}, api.ErrArg},
		})
	}
	runChecks(t, []checkCase{{"no objects", api.Graph{Roots: vals(ref(0))}, api.ErrArg}})
}

func TestCheckRange(t *testing.T) {
	for _, n := range []int64{api.MinInt - 1, api.MaxInt + 1, math.MinInt64, math.MaxInt64} {
		runChecks(t, []checkCase{
			{"a root", api.Graph{Roots: vals(num(0), num(n))}, api.ErrRange},
			{"a field", api.Graph{Objects: objs(obj(num(0), num(n))), Roots: vals(ref(0))}, api.ErrRange},
			{"a field of what can't be come to", api.Graph{Objects: objs(obj(), obj(num(n))), Roots: vals(ref(0))}, api.ErrRange},
		})
	}
}

func TestCheckSeveral(t *testing.T) {
	const off = api.MaxInt + 1
	manyRoots := append(vals(num(off), ref(-1)), make([]api.Value, api.MaxRoots)...)
	manyObjects := append(objs(obj(ref(-1)), obj(num(off))), make([]api.Object, api.MaxObjects)...)
	runChecks(t, []checkCase{
		{"a number ahead of a reference", api.Graph{Roots: vals(num(off), ref(0))}, api.ErrArg},
		{"a reference ahead of a number", api.Graph{Roots: vals(ref(0), num(off))}, api.ErrArg},
		{"a root's number, a field's reference", api.Graph{Objects: objs(obj(), obj(ref(2))), Roots: vals(num(off))}, api.ErrArg},
		{"a field's number, a root's reference", api.Graph{Objects: objs(obj(num(off))), Roots: vals(ref(1))}, api.ErrArg},
		{"a number in an earlier object", api.Graph{Objects: objs(obj(num(off)), obj(ref(-1)))}, api.ErrArg},
		{"values ahead of a field too many", api.Graph{Objects: objs(obj(num(off), ref(9)), obj(make([]api.Value, api.MaxFields+1)...)), Roots: vals(num(off), ref(9))}, api.ErrLarge},
		{"a number, and a field too many", api.Graph{Objects: objs(obj(make([]api.Value, api.MaxFields+1)...)), Roots: vals(num(off))}, api.ErrLarge},
		{"wrong values among too many roots", api.Graph{Roots: manyRoots}, api.ErrLarge},
		{"wrong values among too many objects", api.Graph{Objects: manyObjects, Roots: vals(ref(-1), num(off))}, api.ErrLarge},
	})
}
