package arena_test

import (
	"math"
	"slices"
	"testing"

	"ragpicker/api"
	"ragpicker/arena"
)

func TestLay(t *testing.T) {
	cases := []struct {
		name string
		g    api.Graph
		want api.Arena
	}{
		{"nothing at all", api.Graph{}, api.Arena{}},
		{"no objects, but roots", api.Graph{Roots: vals(num(5), num(-1))}, api.Arena{Roots: row(11, math.MaxUint64)}},
		{"the chapter's", api.Graph{Objects: objs(obj(num(5)))}, api.Arena{Words: row(0xA500000000000001, 11)}},
		{"an object without fields", api.Graph{Objects: objs(obj()), Roots: vals(ref(0))}, api.Arena{Words: row(0xA500000000000000), Roots: row(0)}},
		{"an object with all fields", api.Graph{Objects: objs(obj(num(0), ref(0), num(1), num(2)))}, api.Arena{Words: row(0xA500000000000004, 1, 0, 3, 5)}},
		{"numbers become places",
			api.Graph{Objects: objs(obj(ref(2), ref(0), ref(1)), obj(ref(2)), obj()), Roots: vals(ref(2), num(6), ref(1))},
			api.Arena{Words: row(head(3), 12, 0, 8, head(1), 12, head(0)), Roots: row(12, 13, 8)}},
		{"what can't be come to stays, in its order",
			api.Graph{Objects: objs(obj(), obj(ref(1), num(5)), obj(ref(0))), Roots: vals(ref(2))},
			api.Arena{Words: row(head(0), head(2), at(1), of(5), head(1), at(0)), Roots: row(at(4))}},
		{"the same fields, but two objects",
			api.Graph{Objects: objs(obj(num(1)), obj(num(1))), Roots: vals(ref(1), ref(1))},
			api.Arena{Words: row(head(1), of(1), head(1), of(1)), Roots: row(at(2), at(2))}},
		{"the least and the greatest number",
			api.Graph{Objects: objs(obj(num(api.MinInt), num(api.MaxInt)))},
			api.Arena{Words: row(head(2), 0x8000000000000001, 0x7FFFFFFFFFFFFFFF)}},
	}
	for _, c := range cases {
		if a, e := arena.Lay(c.g); e != api.OK || !equalArenas(a, c.want) {
			t.Errorf("%s: %x %d, want %x", c.name, a, e, c.want)
		}
	}
}

func TestLayOfLimits(t *testing.T) {
	var want api.Arena
	for o := range api.MaxObjects {
		want.Words = append(want.Words, head(4), at(5*o), at(5*(api.MaxObjects-1)), of(api.MinInt), of(api.MaxInt))
	}
	for r := range api.MaxRoots {
		want.Roots = append(want.Roots, at(5*(api.MaxObjects-1-r)))
	}
	if a, e := arena.Lay(fullGraph()); e != api.OK || !equalArenas(a, want) {
		t.Errorf("%x %d, want %x", a, e, want)
	}
}

type wrongGraph struct {
	name string
	g    api.Graph
	want api.Errno
}

func wrongGraphs() []wrongGraph {
	const off = api.MaxInt + 1
	objects, fields, roots := fullGraph(), fullGraph(), fullGraph()
	objects.Objects = append(objects.Objects, obj())
	fields.Objects[api.MaxObjects-1].Fields = append(fields.Objects[api.MaxObjects-1].Fields, num(1))
	roots.Roots = append(roots.Roots, num(1))
	return []wrongGraph{
		{"an object too many", objects, api.ErrLarge},
		{"a field too many", fields, api.ErrLarge},
		{"a root too many", roots, api.ErrLarge},
		{"more objects than words", api.Graph{Objects: make([]api.Object, api.MaxWords+1)}, api.ErrLarge},
		{"a field to no object", api.Graph{Objects: objs(obj(), obj(ref(2))), Roots: vals(ref(0))}, api.ErrArg},
		{"a field below all objects", api.Graph{Objects: objs(obj(), obj(ref(-1))), Roots: vals(ref(0))}, api.ErrArg},
		{"a field far beyond all objects", api.Graph{Objects: objs(obj(ref(1 << 32)))}, api.ErrArg},
		{"a root to no object", api.Graph{Objects: objs(obj()), Roots: vals(ref(0), ref(1))}, api.ErrArg},
		{"a root to a place, not an object", api.Graph{Objects: objs(obj(num(1)), obj()), Roots: vals(ref(2))}, api.ErrArg},
		{"a root to none, of no objects", api.Graph{Roots: vals(ref(0))}, api.ErrArg},
		{"a field too small", api.Graph{Objects: objs(obj(), obj(num(api.MinInt-1))), Roots: vals(ref(0))}, api.ErrRange},
		{"a field too great", api.Graph{Objects: objs(obj(num(off))), Roots: vals(ref(0))}, api.ErrRange},
		{"a root out of range", api.Graph{Objects: objs(obj()), Roots: vals(num(math.MinInt64))}, api.ErrRange},
		{"out of range, then too large", api.Graph{Objects: objs(obj(num(off), ref(9)), obj(make([]api.Value, 5)...))}, api.ErrLarge},
		{"out of range, then to no object", api.Graph{Objects: objs(obj(num(off)), obj(ref(2))), Roots: vals(num(off))}, api.ErrArg},
	}
}

func TestLayOfWrongGraphs(t *testing.T) {
	for _, c := range wrongGraphs() {
		if a, e := arena.Lay(c.g); e != c.want || !isZeroArena(a) {
			t.Errorf("%s: %x %d, want %d alone", c.name, a, e, c.want)
		}
	}
}

// fresh has the arena with no mark set, and all ages 0.
func fresh(a api.Arena, starts []int) api.Arena {
	f := cloneArena(a)
	for _, place := range starts {
		f.Words[place] &= 0xFF<<56 | 0xFF
	}
	return f
}

func TestThereAndBack(t *testing.T) {
	d := dice(3)
	for range 3000 {
		g := d.graph()
		a, e := arena.Lay(g)
		if e != api.OK || arena.Check(a) != api.OK {
			t.Fatalf("Lay of %v: %x %d", g, a, e)
		}
		if back, e := arena.Read(a); e != api.OK || !equalGraphs(back, g) {
			t.Fatalf("Read of what Lay tells of %v: %v %d", g, back, e)
		}
	}
}

func TestBackAndThere(t *testing.T) {
	d := dice(4)
	large := 0
	for range 3000 {
		a, starts := d.arena(100)
		g, e := arena.Read(a)
		if e != api.OK {
			t.Fatalf("Read of %x: %d", a, e)
		}
		back, e := arena.Lay(g)
		if len(starts) > api.MaxObjects {
			large++
			if e != api.ErrLarge || !isZeroArena(back) {
				t.Fatalf("Lay of %d objects: %x %d, want %d alone", len(starts), back, e, api.ErrLarge)
			}
			continue
		}
		if want := fresh(a, starts); e != api.OK || !equalArenas(back, want) {
			t.Fatalf("Lay of what Read tells of %x: %x %d, want %x", a, back, e, want)
		}
	}
	if large < 100 || large > 2900 {
		t.Errorf("%d of 3000 arenas have more than MaxObjects objects", large)
	}
}

func TestLayMakesNewHeaders(t *testing.T) {
	a, e := arena.Lay(fullGraph())
	starts, e2 := arena.Starts(a)
	if e != api.OK || e2 != api.OK || len(starts) != api.MaxObjects {
		t.Fatal(a, e, starts, e2)
	}
	if slices.ContainsFunc(starts, func(place int) bool { return a.Words[place] != head(4) }) {
		t.Errorf("%x: a header is marked, or has an age", a.Words)
	}
}
