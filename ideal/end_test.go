package ideal_test

import (
	"slices"
	"testing"

	"ragpicker/api"
	"ragpicker/graph"
	"ragpicker/ideal"
)

func TestWhatIsGoneInTheEnd(t *testing.T) {
	g := api.Graph{Objects: objs(obj(num(5), ref(2)), obj(ref(0)), obj(num(7))), Roots: vals(ref(1), ref(2))}
	runPlays(t, g, []playCase{
		{"nothing is done", nil, nil, ends(vals(ref(0), ref(1)), obj(ref(2)), obj(num(7)), obj(num(5), ref(1)))},
		{"one register less", script(number(1, 0)), fine(1), ends(vals(ref(0)), obj(ref(1)), obj(num(5), ref(2)), obj(num(7)))},
		{"the other one less", script(number(0, 0)), fine(1), ends(vals(num(0), ref(0)), obj(num(7)))},
		{"no register", script(number(0, 0), number(1, 0)), fine(2), ends(nil)},
		{"a field less", script(get(2, 0, 0), put(2, 1, 3)), fine(2), ends(vals(ref(0), ref(1), ref(2)), obj(ref(2)), obj(num(7)), obj(num(5), num(0)))},
		{"two fields of one less", script(get(2, 0, 0), put(2, 1, 3), number(1, 0), number(2, 0)), fine(4), ends(vals(ref(0)), obj(ref(1)), obj(num(5), num(0)))},
		{"the last register alone", script(move(7, 1), number(0, 1), number(1, 2)), fine(3), ends(vals(num(1), num(2), num(0), num(0), num(0), num(0), num(0), ref(0)), obj(num(7)))},
		{"new ones, of which one stays", script(create(2, 2), create(2, 1)), fine(2), ends(vals(ref(0), ref(1), ref(2)), obj(ref(3)), obj(num(7)), obj(num(0)), obj(num(5), ref(1)))},
		{"a new one that refers to an old one, and goes", script(create(2, 1), put(2, 0, 1), number(1, 0), number(2, 0), number(0, 0)), fine(5), ends(nil)},
		{"a new one that refers to an old one, and stays", script(create(2, 1), put(2, 0, 1), number(0, 0), number(1, 0)), fine(4), ends(vals(num(0), num(0), ref(0)), obj(ref(1)), obj(num(7)))},
		{"a new one that is in an old one's field alone", script(create(2, 1), put(0, 0, 2), number(2, 0)), fine(3), ends(vals(ref(0), ref(1)), obj(ref(2)), obj(num(7)), obj(num(0)))},
	})
}

// TestTheOrderInTheEnd: registers first, by their numbers, whenever they got what they have; then fields.
func TestTheOrderInTheEnd(t *testing.T) {
	runPlays(t, api.Graph{}, []playCase{
		{"the last register first", script(create(7, 1), create(3, 2), create(0, 3)), fine(3), ends(vals(ref(0), num(0), num(0), ref(1), num(0), num(0), num(0), ref(2)), obj(num(0), num(0), num(0)), obj(num(0), num(0)), obj(num(0)))},
		{"registers ahead of fields", script(create(1, 1), create(2, 2), create(0, 3), put(0, 2, 2)), fine(4), ends(vals(ref(0), ref(1), ref(2)), obj(num(0), num(0), ref(2)), obj(num(0)), obj(num(0), num(0)))},
		{"fields in their order", script(create(0, 2), create(1, 3), put(0, 1, 1), create(1, 1), put(0, 0, 1), number(1, 0)), fine(6), ends(vals(ref(0)), obj(ref(1), ref(2)), obj(num(0)), obj(num(0), num(0), num(0)))},
		{"all fields of one ahead of those of the next one", script(create(0, 2), create(1, 1), put(0, 0, 1), create(2, 2), put(1, 0, 2), create(1, 3), put(0, 1, 1), number(1, 0), number(2, 0)), fine(9), ends(vals(ref(0)), obj(ref(1), ref(2)), obj(ref(3)), obj(num(0), num(0), num(0)), obj(num(0), num(0)))},
	})
}

// chainScript has so many new objects, each of which refers to the one that came ahead of it; register 0 has the last one.
func chainScript(n int) (list []api.Do) {
	for range n {
		list = append(list, create(1, 1), put(1, 0, 0), move(0, 1))
	}
	return append(list, number(1, 0))
}

// chained has so many objects, each of which refers to the next one, and the last one has this number.
func chained(n int, last api.Value) (list []api.Object) {
	for o := range n {
		list = append(list, obj(ref(int64(o+1))))
	}
	list[n-1] = obj(last)
	return list
}

func TestMoreThanMaxObjects(t *testing.T) {
	for _, n := range []int{api.MaxObjects - 1, api.MaxObjects, api.MaxObjects + 1, 33} {
		list := chainScript(n)
		holdPlay(t, "a chain", api.Graph{}, list, fine(len(list)), ends(vals(ref(0)), chained(n, num(0))...))
	}
	g := full()
	list := script(create(7, 0))
	holdPlay(t, "one more than MaxObjects, all but eight gone", g, list, fine(1), endOfFull(7, ref(api.MaxObjects), obj()))
	// A chain of as many as there may be, and one more ahead of each.
	whole := api.Graph{Objects: chained(api.MaxObjects, num(6)), Roots: vals(ref(0))}
	for _, n := range []int{1, 2, 33} {
		list := chainScript(n)
		holdPlay(t, "a chain in front of a chain", whole, list, fine(len(list)), ends(vals(ref(0)), chained(api.MaxObjects+n, num(6))...))
	}
	holdPlay(t, "MaxScript new ones, all but the last one gone", whole, slices.Repeat(script(create(0, 4)), api.MaxScript), fine(api.MaxScript), ends(vals(ref(0)), obj(make([]api.Value, 4)...)))
}

// TestTwiceAsManyInFields: as many as there may be go round in a circle, and each is given a new one.
func TestTwiceAsManyInFields(t *testing.T) {
	g, want := api.Graph{Roots: vals(ref(0))}, ends(vals(ref(0)))
	var list []api.Do
	for o := range int64(api.MaxObjects) {
		next := (o + 1) % api.MaxObjects
		g.Objects = append(g.Objects, obj(num(o), num(-o), ref(next)))
		list = append(list, create(1, o%5), put(0, 1, 1), number(1, 0), get(0, 0, 2))
	}
	// Each one's new object is found ahead of the next one of the circle.
	for o := range int64(api.MaxObjects) {
		next := 2 * ((o + 1) % api.MaxObjects)
		want.Objects = append(want.Objects, obj(num(o), ref(2*o+1), ref(next)), obj(make([]api.Value, o%5)...))
	}
	holdPlay(t, "a circle", g, list, fine(len(list)), want)
}

func TestEndHasAllRegisters(t *testing.T) {
	d := dice(7)
	for range 500 {
		g, list := d.play()
		_, end, e := ideal.Play(g, list)
		if e != api.OK || len(end.Roots) != api.MaxRoots {
			t.Fatalf("Play(%v, %v): %v %d", g, list, end, e)
		}
	}
}

// TestEndIsCanon: where there is no script, the end is Canon of the graph, with numbers 0 for the roots that it lacks.
func TestEndIsCanon(t *testing.T) {
	d := dice(8)
	for range 2000 {
		g := d.graph()
		want, _ := graph.Canon(g)
		want.Roots = allRegisters(want.Roots...)
		holdPlay(t, "Canon", g, nil, nil, want)
	}
}
