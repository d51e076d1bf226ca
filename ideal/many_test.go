package ideal_test

import (
	"slices"
	"testing"

	"ragpicker/api"
	"ragpicker/graph"
	"ragpicker/ideal"
)

// TestAllSmallScripts holds all scripts of up to four things, out of some, against the plain memory.
func TestAllSmallScripts(t *testing.T) {
	things := script(create(0, 0), create(0, 1), create(1, 2), number(0, 1), number(1, 0), move(0, 1), move(1, 0),
		put(0, 0, 0), put(0, 0, 1), put(1, 0, 0), put(1, 1, 1), get(0, 0, 0), get(0, 1, 1), get(1, 0, 0), same(0, 1), tell(0), tell(1))
	graphs := []api.Graph{
		{},
		{Objects: objs(obj(ref(1)), obj(num(1), ref(0))), Roots: vals(ref(0), ref(1))},
		{Objects: objs(obj(num(1), num(2)), obj()), Roots: vals(ref(0), ref(0))},
	}
	for i, g := range graphs {
		most := 3
		if i == 1 {
			most = 4
		}
		for list := range smallScripts(things, most) {
			want, end := plainPlay(g, list)
			holdPlay(t, "small", g, list, want, end)
		}
	}
}

// TestManyScripts holds thrown scripts against the plain memory, and looks whether there is enough of each kind among them.
func TestManyScripts(t *testing.T) {
	d := dice(1)
	done, wrong := map[int]int{}, map[api.Errno]int{}
	equal, large, round := 0, 0, 0
	for range 10000 {
		g, list := d.play()
		want, end := plainPlay(g, list)
		holdPlay(t, "thrown", g, list, want, end)
		for i, o := range want {
			if o.Code != api.OK {
				wrong[o.Code]++
				continue
			}
			done[list[i].Kind]++
			if list[i].Kind == api.DSame {
				equal += int(o.N)
			}
		}
		if len(end.Objects) > api.MaxObjects {
			large++
		}
		if slices.ContainsFunc(end.Objects, func(o api.Object) bool { return slices.Contains(o.Fields, ref(0)) }) {
			round++
		}
	}
	for kind := api.DNew; kind <= api.DTell; kind++ {
		if done[kind] < 5000 {
			t.Errorf("%d of kind %d", done[kind], kind)
		}
	}
	if len(done) != 7 || len(wrong) != 3 || min(wrong[api.ErrKind], wrong[api.ErrArg], wrong[api.ErrRange]) < 2000 {
		t.Errorf("too few of a kind: %v %v", done, wrong)
	}
	if min(equal, large, round) < 50 {
		t.Errorf("%d are the same, %d ends are large, %d go back to the first object", equal, large, round)
	}
}

// TestErrorsChangeNothing: without the things that are told an error, the others are told the same.
func TestErrorsChangeNothing(t *testing.T) {
	d := dice(2)
	for range 3000 {
		g, list := d.play()
		l, end, _ := ideal.Play(g, list)
		var good []api.Do
		var want []api.Out
		for i, o := range l {
			if o.Code == api.OK {
				good, want = append(good, list[i]), append(want, o)
			}
		}
		holdPlay(t, "without errors", g, good, want, end)
	}
}

// TestTwoScripts: what is done on from the end of a script is told as if it were all one script, wherever it is cut.
func TestTwoScripts(t *testing.T) {
	d := dice(3)
	small := 0
	for range 5000 {
		g, list := d.play()
		l, end, _ := ideal.Play(g, list)
		cut := d.below(len(list) + 1)
		_, between, _ := ideal.Play(g, list[:cut])
		if len(between.Objects) <= api.MaxObjects {
			small++
			holdPlay(t, "the rest of it", between, list[cut:], l[cut:], end)
		}
	}
	if small < 2000 {
		t.Errorf("%d could be cut", small)
	}
}

// moved gives the object o of g the number to[o].
func moved(g api.Graph, to []int) api.Graph {
	turn := func(list []api.Value) []api.Value {
		out := slices.Clone(list)
		for i, v := range out {
			if v.Ref {
				out[i].N = int64(to[v.N])
			}
		}
		return out
	}
	m := api.Graph{Objects: make([]api.Object, len(g.Objects)), Roots: turn(g.Roots)}
	for o := range g.Objects {
		m.Objects[to[o]].Fields = turn(g.Objects[o].Fields)
	}
	return m
}

// TestNumbersOfObjectsCanNotBeTold: what is told does not hang on the numbers that the objects of the graph have, nor on those that can't be come to.
func TestNumbersOfObjectsCanNotBeTold(t *testing.T) {
	d := dice(4)
	for range 3000 {
		g, list := d.play()
		l, end, _ := ideal.Play(g, list)
		to := make([]int, len(g.Objects))
		for i := range to {
			j := d.below(i + 1)
			to[i], to[j] = to[j], i
		}
		holdPlay(t, "other numbers", moved(g, to), list, l, end)
		c, _ := graph.Canon(g)
		holdPlay(t, "those that can be come to", c, list, l, end)
	}
}
