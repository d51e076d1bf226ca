package count_test

import (
	"math"
	"slices"
	"testing"

	"ragpicker/api"
	"ragpicker/count"
)

// behind lays wrong things behind the length of each list of g.
func behind(g api.Graph) api.Graph {
	wrong := ref(math.MaxInt64)
	lay := func(list []api.Value) []api.Value {
		return append(slices.Clone(list), wrong, wrong, wrong, wrong, wrong)[:len(list)]
	}
	b := api.Graph{Roots: lay(g.Roots)}
	for _, o := range g.Objects {
		b.Objects = append(b.Objects, api.Object{Fields: lay(o.Fields)})
	}
	b.Objects = append(b.Objects, obj(wrong, wrong, wrong, wrong, wrong))[:len(g.Objects)]
	return b
}

// whole has each list of g up to its capacity.
func whole(g api.Graph) api.Graph {
	w := api.Graph{Objects: slices.Clone(g.Objects[:cap(g.Objects)]), Roots: g.Roots[:cap(g.Roots)]}
	for o := range w.Objects {
		w.Objects[o].Fields = w.Objects[o].Fields[:cap(w.Objects[o].Fields)]
	}
	return w
}

// spoilGraph writes over all of g's lists, up to their capacities.
func spoilGraph(g api.Graph) {
	w := whole(g)
	over := func(list []api.Value) {
		for i := range list {
			list[i] = num(99)
		}
	}
	over(w.Roots)
	for _, o := range w.Objects {
		over(o.Fields)
	}
	clear(g.Objects[:cap(g.Objects)])
}

// spoil writes over all lists of an answer, up to their capacities.
func spoil(c api.Counted) {
	outs, there, gone := c.Outs[:cap(c.Outs)], c.There[:cap(c.There)], c.Gone[:cap(c.Gone)]
	for i := range outs {
		outs[i] = api.Out{Code: -1, Ref: true, N: 99}
	}
	for i := range there {
		there[i] = api.Count{Object: -1, N: -1}
	}
	for i := range gone {
		gone[i] = -1
	}
}

func TestArgumentsStay(t *testing.T) {
	d := dice(7)
	for range 1000 {
		g, room, list := d.play()
		want := plainPlay(g, room, list)
		b := behind(g)
		more := append(slices.Clone(list), create(0, 1), number(0, 7), api.Do{})
		given := more[:len(list)]
		before, moreBefore := cloneGraph(whole(b)), slices.Clone(more)
		hold(t, "more behind the lengths", b, room, given, want)
		spoil(must(t, b, room, given))
		if !equalGraphs(before, whole(b)) {
			t.Fatalf("%v was changed to %v", before, whole(b))
		}
		if !slices.Equal(more, moreBefore) {
			t.Fatalf("%v was changed to %v", moreBefore, more)
		}
		// What is told does not change with what was handed in.
		c := must(t, b, room, given)
		spoilGraph(b)
		clear(more)
		if !equal(c, want) {
			t.Fatalf("what is told of %v and %v shares memory with them", before, moreBefore)
		}
	}
}

func TestArgumentsStayWithErrors(t *testing.T) {
	list := script(put(0, 0, 1), number(0, 1))
	for _, c := range wrongGraphs() {
		before := cloneGraph(c.g)
		count.Play(c.g, 1, list)
		if !equalGraphs(c.g, before) || !slices.Equal(list, script(put(0, 0, 1), number(0, 1))) {
			t.Errorf("%s: %v was changed to %v", c.name, before, c.g)
		}
	}
	g := some()
	holdError(t, "no room", g, 0, list, api.ErrRange)
	holdError(t, "a script too long", g, 1, slices.Repeat(script(put(0, 0, 0)), api.MaxScript+1), api.ErrLarge)
	if !equalGraphs(g, some()) {
		t.Errorf("%v was changed to %v", some(), g)
	}
}

// TestListsThatShareMemory: objects whose fields lie in one list that is handed in have fields of their own.
func TestListsThatShareMemory(t *testing.T) {
	list := vals(ref(0), ref(1), num(3), ref(2))
	before := slices.Clone(list)
	g := graphOf(list[:2], api.Object{Fields: list}, api.Object{Fields: list}, api.Object{Fields: list[1:3]})
	runPlays(t, g, []playCase{
		{"nothing done", nil, nil, nil, there(0, 3, 1, 4, 2, 2)},
		{"a field of one", script(put(0, 1, 5), put(0, 3, 5), get(3, 1, 3), tell(3)), outs(bad(0), bad(0), bad(0), has(2)), nil, there(0, 3, 1, 3, 2, 2)},
		{"a field of the other one", script(put(1, 0, 5), put(0, 0, 5), number(0, 0)), nil, gone(0), there(1, 3, 2, 1)},
	})
	if !slices.Equal(list, before) {
		t.Errorf("%v was changed to %v", before, list)
	}
}

// TestCallsShareNothing: answers are new memory each time, and hang on what is handed in alone.
func TestCallsShareNothing(t *testing.T) {
	d := dice(8)
	for range 1000 {
		g, room, list := d.play()
		c := must(t, g, room, list)
		want := api.Counted{Outs: slices.Clone(c.Outs), There: slices.Clone(c.There), Gone: slices.Clone(c.Gone)}
		other := must(t, g, room, list)
		spoil(c)
		if !equal(other, want) {
			t.Fatalf("two answers to %v, room %d, %v share memory", g, room, list)
		}
		must(t, full(), 1, list)
		hold(t, "once more", g, room, list, want)
	}
}
