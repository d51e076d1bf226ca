package ideal_test

import (
	"math"
	"slices"
	"testing"

	"ragpicker/api"
	"ragpicker/ideal"
)

// behind lays wrong things behind the length of each list of g.
func behind(g api.Graph) api.Graph {
	wrong := ref(math.MaxInt64)
	lay := func(list []api.Value) []api.Value {
		return append(slices.Clone(list), wrong, wrong, wrong, wrong, wrong)[:len(list)]
	}
	b := api.Graph{Roots: lay(g.Roots)}
	for _, o := range g.Objects {
		b.Objects = append(b.Objects, api.Object{Fields: lay(o.Fields)})
	}
	b.Objects = append(b.Objects, obj(wrong, wrong, wrong, wrong, wrong))[:len(g.Objects)]
	return b
}

// whole has each list of g up to its capacity.
func whole(g api.Graph) api.Graph {
	w := api.Graph{Objects: slices.Clone(g.Objects[:cap(g.Objects)]), Roots: g.Roots[:cap(g.Roots)]}
	for o := range w.Objects {
		w.Objects[o].Fields = w.Objects[o].Fields[:cap(w.Objects[o].Fields)]
	}
	return w
}

// spoilGraph writes over all of g's lists, up to their capacities.
func spoilGraph(g api.Graph) {
	w := whole(g)
	over := func(list []api.Value) {
		for i := range list {
			list[i] = num(99)
		}
	}
	over(w.Roots)
	for _, o := range w.Objects {
		over(o.Fields)
	}
	clear(g.Objects[:cap(g.Objects)])
}

func spoilOuts(l []api.Out) {
	l = l[:cap(l)]
	for i := range l {
		l[i] = api.Out{Code: -1, Ref: true, N: 99}
	}
}

func TestArgumentsStay(t *testing.T) {
	d := dice(5)
	for range 1000 {
		g, list := d.play()
		want, end := plainPlay(g, list)
		b := behind(g)
		more := append(slices.Clone(list), create(0, 1), number(0, 7), api.Do{})
		given := more[:len(list)]
		before, moreBefore := cloneGraph(whole(b)), slices.Clone(more)
		holdPlay(t, "more behind the lengths", b, given, want, end)
		l, made, _ := ideal.Play(b, given)
		spoilOuts(l)
		spoilGraph(made)
		if !equalGraphs(before, whole(b)) {
			t.Fatalf("%v was changed to %v", before, whole(b))
		}
		if !slices.Equal(more, moreBefore) {
			t.Fatalf("%v was changed to %v", moreBefore, more)
		}
		// What is told does not change with what was handed in.
		l, made, _ = ideal.Play(b, given)
		spoilGraph(b)
		clear(more)
		if !slices.Equal(l, want) || !equalGraphs(made, end) {
			t.Fatalf("what is told of %v and %v shares memory with them", before, moreBefore)
		}
	}
}

func TestArgumentsStayWithErrors(t *testing.T) {
	for _, c := range wrongGraphs() {
		before, list := cloneGraph(c.g), script(put(0, 0, 1), number(0, 1))
		ideal.Play(c.g, list)
		if !equalGraphs(c.g, before) || !slices.Equal(list, script(put(0, 0, 1), number(0, 1))) {
			t.Errorf("%s: %v was changed to %v", c.name, before, c.g)
		}
	}
	g, list := some(), slices.Repeat(script(put(0, 0, 0)), api.MaxScript+1)
	holdError(t, "a script too long", g, list, api.ErrLarge)
	if !equalGraphs(g, some()) {
		t.Errorf("%v was changed to %v", some(), g)
	}
}

// TestListsThatShareMemory: objects whose fields lie in one list that is handed in have fields of their own.
func TestListsThatShareMemory(t *testing.T) {
	list := vals(ref(0), ref(1), num(3), num(4))
	before := slices.Clone(list)
	g := api.Graph{Objects: objs(api.Object{Fields: list}, api.Object{Fields: list}, api.Object{Fields: list[1:3]}), Roots: list[:2]}
	things := script(number(5, 7), put(0, 1, 5), put(1, 2, 5), number(1, 8), tell(0), get(4, 0, 2), tell(4))
	want := append(fine(4), has(4), bad(0), told(3))
	holdPlay(t, "the same list", g, things, want, ends(vals(ref(0), num(8), num(0), num(0), num(3), num(7)), obj(ref(0), num(7), num(3), num(4))))
	g.Roots = vals(ref(0), ref(1), ref(2))
	things = script(number(5, 7), put(0, 1, 5), put(2, 1, 5))
	holdPlay(t, "pieces of one list", g, things, fine(3), ends(vals(ref(0), ref(1), ref(2), num(0), num(0), num(7)), obj(ref(0), num(7), num(3), num(4)), obj(ref(0), ref(1), num(3), num(4)), obj(ref(1), num(7))))
	if !slices.Equal(list, before) {
		t.Errorf("%v was changed to %v", before, list)
	}
}

func TestAnswersShareNothing(t *testing.T) {
	d := dice(6)
	for range 500 {
		g, list := d.play()
		_, end, _ := ideal.Play(g, list)
		lists := [][]api.Value{end.Roots}
		for _, o := range end.Objects {
			lists = append(lists, o.Fields)
		}
		for at, l := range lists {
			l = l[:cap(l)]
			for i := range l {
				l[i] = num(int64(1000 + at))
			}
		}
		for at, l := range lists {
			if slices.ContainsFunc(l, func(v api.Value) bool { return v != num(int64(1000+at)) }) {
				t.Fatalf("Play of %v and %v: two lists share memory", g, list)
			}
		}
	}
}

func TestAnswersHangOnArgumentsAlone(t *testing.T) {
	d := dice(9)
	for range 500 {
		g, list := d.play()
		l, end, _ := ideal.Play(g, list)
		want, wantEnd := slices.Clone(l), cloneGraph(end)
		spoilOuts(l)
		spoilGraph(end)
		ideal.Play(d.play())
		holdPlay(t, "once more", g, list, want, wantEnd)
	}
}
