package comps_test

import (
	"math"
	"slices"
	"testing"

	"ragpicker/api"
	"ragpicker/comps"
)

// behind lays wrong things behind the length of each list of g.
func behind(g api.Graph) api.Graph {
	wrong := ref(math.MaxInt64)
	lay := func(list []api.Value) []api.Value {
		return append(slices.Clone(list), wrong, wrong, wrong, wrong, wrong)[:len(list)]
	}
	b := api.Graph{Roots: lay(g.Roots)}
	for _, o := range g.Objects {
		b.Objects = append(b.Objects, api.Object{Fields: lay(o.Fields)})
	}
	b.Objects = append(b.Objects, obj(wrong, wrong, wrong, wrong, wrong))[:len(g.Objects)]
	return b
}

// wholeLists has each list of g up to its capacity.
func wholeLists(g api.Graph) api.Graph {
	w := api.Graph{Objects: slices.Clone(g.Objects[:cap(g.Objects)]), Roots: g.Roots[:cap(g.Roots)]}
	for o := range w.Objects {
		w.Objects[o].Fields = w.Objects[o].Fields[:cap(w.Objects[o].Fields)]
	}
	return w
}

func TestArgumentsStay(t *testing.T) {
	d := dice(2)
	for range 500 {
		g := d.graph()
		b := behind(g)
		before := cloneGraph(wholeLists(b))
		want, _ := comps.Comps(g)
		if l, e := comps.Comps(b); e != api.OK || !equalLists(l, want) {
			t.Fatalf("Comps of %v: %v %d, want %v", b, l, e, want)
		}
		round, _ := comps.Round(g)
		if l, e := comps.Round(b); e != api.OK || !slices.Equal(l, round) {
			t.Fatalf("Round of %v: %v %d, want %v", b, l, e, round)
		}
		if !equalGraphs(before, wholeLists(b)) {
			t.Fatalf("%v was changed to %v", before, wholeLists(b))
		}
	}
}

func TestAnswersShareNothing(t *testing.T) {
	d := dice(3)
	for range 500 {
		g := d.graph()
		list, _ := comps.Comps(g)
		for at, l := range list {
			l = l[:cap(l)]
			for i := range l {
				l[i] = 1000 + at
			}
		}
		for at, l := range list {
			if slices.ContainsFunc(l, func(o int) bool { return o != 1000+at }) {
				t.Fatalf("Comps of %v: two lists share memory", g)
			}
		}
	}
}

func TestAnswersHangOnArgumentsAlone(t *testing.T) {
	d := dice(4)
	for range 200 {
		g := d.graph()
		l, _ := comps.Comps(g)
		r, _ := comps.Round(g)
		want, round := cloneLists(l), slices.Clone(r)
		for _, c := range l {
			clear(c)
		}
		clear(r)
		comps.Comps(d.graph())
		if l, _ := comps.Comps(g); !equalLists(l, want) {
			t.Fatalf("Comps of %v: %v, then %v", g, want, l)
		}
		if r, _ := comps.Round(g); !slices.Equal(r, round) {
			t.Fatalf("Round of %v: %v, then %v", g, round, r)
		}
	}
}
