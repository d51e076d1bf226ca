package count_test

import (
	"slices"
	"testing"

	"ragpicker/api"
)

// TestBeforeTheScript: what goes when nothing was done yet.
func TestBeforeTheScript(t *testing.T) {
	cases := []struct {
		name  string
		g     api.Graph
		gone  []int
		there []api.Count
	}{
		{"no objects", api.Graph{}, nil, nil},
		{"no objects, numbers as roots", graphOf(vals(num(0), num(5))), nil, nil},
		{"one, and a root", graphOf(vals(ref(0)), obj()), nil, there(0, 1)},
		{"one, and no root", graphOf(nil, obj()), gone(0), nil},
		{"as many numbers as objects", graphOf(vals(num(0), num(1)), obj(num(1)), obj(num(0))), gone(0, 1), nil},
		{"none: roots to all", graphOf(vals(ref(1), ref(0), ref(1)), obj(), obj()), nil, there(0, 1, 1, 2)},
		{"none: the last register alone", graphOf(vals(num(0), num(0), num(0), num(0), num(0), num(0), num(0), ref(0)), obj()), nil, there(0, 1)},
		{"some", graphOf(vals(ref(1), num(0), ref(3)), obj(), obj(), obj(), obj()), gone(0, 2), there(1, 1, 3, 1)},
		{"all, the first of them first", graphOf(nil, obj(), obj(), obj()), gone(0, 1, 2), nil},

		{"a chain", graphOf(nil, to(1), to(2), to(3), obj()), gone(0, 1, 2, 3), nil},
		{"a chain from the last one", graphOf(nil, obj(), to(0), to(1), to(2)), gone(3, 2, 1, 0), nil},
		{"a chain up and down", graphOf(nil, to(3), obj(), to(0), to(1)), gone(2, 0, 3, 1), nil},
		{"a chain, and a root to its midst", graphOf(vals(ref(1)), to(1), to(2), obj()), gone(0), there(1, 1, 2, 1)},
		{"a chain, and a root to its end", graphOf(vals(ref(2)), to(1), to(2), obj()), gone(0, 1), there(2, 1)},
		{"a chain, and a root to its beginning", graphOf(vals(ref(0)), to(1), to(2), obj()), nil, there(0, 1, 1, 1, 2, 1)},
		{"two chains, one after the other", graphOf(nil, to(3), to(4), obj(), to(5), obj(), obj()), gone(0, 3, 5, 1, 4, 2), nil},
		{"what goes along is ahead of the next one", graphOf(nil, obj(), to(0), obj()), gone(1, 0, 2), nil},
		{"what is shared goes with the last that refers to it", graphOf(nil, to(2), to(2), obj()), gone(0, 1, 2), nil},
		{"what is shared, and a root", graphOf(vals(ref(1)), to(2), to(2), obj()), gone(0), there(1, 1, 2, 1)},

		{"field by field", graphOf(nil, to(2, 1), to(3), to(4), obj(), obj()), gone(0, 2, 4, 1, 3), nil},
		{"numbers between", graphOf(nil, obj(num(1), ref(2), num(2), ref(1)), obj(num(0)), obj(num(3))), gone(0, 2, 1), nil},
		{"twice in one", graphOf(nil, to(1, 1), obj()), gone(0, 1), nil},
		{"twice in one, with another one between", graphOf(nil, to(1, 2, 1), obj(), obj()), gone(0, 2, 1), nil},
		{"a field that is still to come", graphOf(nil, to(1, 3, 2), to(2), obj(), obj()), gone(0, 1, 3, 2), nil},

		{"it points at itself", graphOf(nil, to(0)), nil, there(0, 1)},
		{"four times", graphOf(nil, to(0, 0, 0, 0)), nil, there(0, 4)},
		{"at itself, and a root", graphOf(vals(ref(0)), to(0)), nil, there(0, 2)},
		{"at each other", graphOf(nil, to(1), to(0)), nil, there(0, 1, 1, 1)},
		{"a circle of three", graphOf(nil, to(2), to(0), to(1)), nil, there(0, 1, 1, 1, 2, 1)},
		{"what a circle leads to", graphOf(nil, to(0, 2), obj(), to(3), obj()), gone(1), there(0, 1, 2, 1, 3, 1)},
		{"what leads to a circle", graphOf(nil, to(1), to(2), to(3), to(2)), gone(0, 1), there(2, 1, 3, 1)},
		{"circles, and others", graphOf(vals(ref(5)), to(4), to(1), to(1), to(4), to(3), to(2)), gone(0), there(1, 2, 2, 1, 3, 1, 4, 1, 5, 1)},
	}
	for _, c := range cases {
		// The room is for new objects alone: g's are there, however many.
		for _, room := range []int{1, 2, api.MaxRoom} {
			want := api.Counted{There: c.there, Gone: c.gone}
			hold(t, c.name+", no script", c.g, room, nil, want)
			hold(t, c.name+", an empty script", c.g, room, script(), want)
		}
		list := script(number(0, 1), number(1, 1), number(7, 1))
		if later := must(t, c.g, 1, list).Gone; len(later) < len(c.gone) || !slices.Equal(later[:len(c.gone)], c.gone) {
			t.Errorf("%s: %v goes with a script, not %v first", c.name, later, c.gone)
		}
	}
}

// TestLargeGraphs: as many objects as a graph may have.
func TestLargeGraphs(t *testing.T) {
	alone, chain, back, own := api.Graph{}, api.Graph{}, api.Graph{}, api.Graph{}
	var up, down []int
	var ones []api.Count
	for o := range api.MaxObjects {
		alone.Objects = append(alone.Objects, obj(num(int64(o))))
		chain.Objects = append(chain.Objects, obj(ref(int64(o+1)), num(1)))
		back.Objects = append(back.Objects, obj(num(1), ref(int64(o-1))))
		own.Objects = append(own.Objects, obj(num(1), ref(int64(o))))
		up, down, ones = append(up, o), append(down, api.MaxObjects-1-o), append(ones, api.Count{Object: o, N: 1})
	}
	chain.Objects[api.MaxObjects-1], back.Objects[0] = obj(), obj()
	for _, room := range []int{1, api.MaxObjects, api.MaxRoom} {
		hold(t, "all alone", alone, room, nil, api.Counted{Gone: up})
		hold(t, "a chain", chain, room, nil, api.Counted{Gone: up})
		hold(t, "a chain back", back, room, nil, api.Counted{Gone: down})
		hold(t, "each one points at itself", own, room, nil, api.Counted{There: ones})
		// Each one of full points at itself, all of them at the last one, and roots at the first eight.
		var want []api.Count
		for o := range api.MaxObjects {
			n := 1
			if o < api.MaxRoots {
				n++
			}
			want = append(want, api.Count{Object: o, N: n})
		}
		want[api.MaxObjects-1].N = api.MaxObjects + 1
		hold(t, "full", full(), room, nil, api.Counted{There: want})
	}
}

// TestWhatWentBeforeIsNotThere: nobody gets at it any more, and what it referred to is counted without it.
func TestWhatWentBeforeIsNotThere(t *testing.T) {
	g := graphOf(vals(ref(1)), to(1, 1, 1), obj(num(4)))
	runPlays(t, g, []playCase{
		{"nothing done", nil, nil, gone(0), there(1, 1)},
		{"the other one goes as well", script(number(0, 0)), nil, gone(0, 1), nil},
		{"new ones have numbers behind it", script(create(1, 0)), nil, gone(0), there(1, 1, 2, 1)},
	})
}
