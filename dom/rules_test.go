package dom_test

import (
	"math"
	"slices"
	"testing"

	"ragpicker/api"
	"ragpicker/dom"
)

type wrongGraph struct {
	name string
	g    api.Graph
	want api.Errno
}

func wrongGraphs() []wrongGraph {
	tooRooted := links([]int{0, 0, 0, 0, 0, 0, 0, 0, 0}, []int{0})
	return []wrongGraph{
		{"too many objects", chain(api.MaxObjects + 1), api.ErrLarge},
		{"too many fields", links([]int{0}, []int{0}, []int{0, 0, 0, 0, 0}), api.ErrLarge},
		{"too many roots", tooRooted, api.ErrLarge},
		{"a field to no object", links([]int{0}, []int{0}, []int{2}), api.ErrArg},
		{"a field below the objects", links([]int{0}, []int{0}, []int{-1}), api.ErrArg},
		{"a field far beyond the objects", links([]int{0}, []int{0, 1 << 32}), api.ErrArg},
		{"a root to no object", links([]int{0, 1}, []int{0}), api.ErrArg},
		{"a root to none, of no objects", links([]int{0}), api.ErrArg},
		{"a field too small", api.Graph{Objects: []api.Object{obj(num(api.MinInt - 1))}, Roots: vals(ref(0))}, api.ErrRange},
		{"a field too great, where none comes to it", api.Graph{Objects: []api.Object{obj(), obj(num(api.MaxInt + 1))}, Roots: vals(ref(0))}, api.ErrRange},
		{"a root out of range", api.Graph{Objects: []api.Object{obj()}, Roots: vals(ref(0), num(math.MinInt64))}, api.ErrRange},
		{"too large behind a reference to none and out of range", api.Graph{Objects: []api.Object{obj(num(math.MaxInt64), ref(9)), obj(ref(0), ref(0), ref(0), ref(0), ref(0))}, Roots: vals(ref(0))}, api.ErrLarge},
		{"too many roots, of which one is out of range", api.Graph{Objects: []api.Object{obj(num(math.MaxInt64))}, Roots: append(slices.Clone(tooRooted.Roots), num(math.MinInt64))}, api.ErrLarge},
		{"a reference to none behind what is out of range", api.Graph{Objects: []api.Object{obj(num(math.MaxInt64)), obj(ref(2))}, Roots: vals(num(math.MinInt64), ref(0))}, api.ErrArg},
	}
}

func TestWrongGraphs(t *testing.T) {
	for _, c := range wrongGraphs() {
		if l, e := dom.Idom(c.g); e != c.want || len(l) != 0 {
			t.Errorf("%s: Idom %v %d, want %d alone", c.name, l, e, c.want)
		}
		// The graph's error is told first, whether v is an object or not.
		for _, v := range []int{0, -1, len(c.g.Objects), math.MaxInt, math.MinInt} {
			if l, e := dom.Retained(c.g, v); e != c.want || len(l) != 0 {
				t.Errorf("%s: Retained by %d: %v %d, want %d alone", c.name, v, l, e, c.want)
			}
		}
	}
}

// behind lays wrong things behind the length of each list of g.
func behind(g api.Graph) api.Graph {
	wrong := ref(math.MaxInt64)
	lay := func(list []api.Value) []api.Value {
		return append(slices.Clone(list), wrong, wrong, wrong, wrong, wrong)[:len(list)]
	}
	b := api.Graph{Roots: lay(g.Roots)}
	for _, o := range g.Objects {
		b.Objects = append(b.Objects, api.Object{Fields: lay(o.Fields)})
	}
	b.Objects = append(b.Objects, obj(wrong, wrong, wrong, wrong, wrong))[:len(g.Objects)]
	return b
}

// wholeLists has each list of g up to its capacity.
func wholeLists(g api.Graph) api.Graph {
	w := api.Graph{Objects: slices.Clone(g.Objects[:cap(g.Objects)]), Roots: g.Roots[:cap(g.Roots)]}
	for o := range w.Objects {
		w.Objects[o].Fields = w.Objects[o].Fields[:cap(w.Objects[o].Fields)]
	}
	return w
}

func TestArgumentsStay(t *testing.T) {
	for g := range thrown(500) {
		b := behind(g)
		before := cloneGraph(wholeLists(b))
		want, _ := dom.Idom(g)
		if l, e := dom.Idom(b); e != api.OK || !slices.Equal(l, want) {
			t.Fatalf("Idom of %v: %v %d, want %v", b, l, e, want)
		}
		for v := range g.Objects {
			want, _ := dom.Retained(g, v)
			if l, e := dom.Retained(b, v); e != api.OK || !slices.Equal(l, want) {
				t.Fatalf("Retained of %v by %d: %v %d, want %v", b, v, l, e, want)
			}
		}
		if !equalGraphs(before, wholeLists(b)) {
			t.Fatalf("%v was changed to %v", before, wholeLists(b))
		}
	}
}

func TestAnswersHangOnArgumentsAlone(t *testing.T) {
	d := dice(2)
	for g := range thrown(200) {
		for v := range g.Objects {
			i, _ := dom.Idom(g)
			r, _ := dom.Retained(g, v)
			idom, retained := slices.Clone(i), slices.Clone(r)
			clear(i[:cap(i)])
			clear(r[:cap(r)])
			dom.Idom(d.graph())
			if l, _ := dom.Idom(g); !slices.Equal(l, idom) {
				t.Fatalf("Idom of %v: %v, then %v", g, idom, l)
			}
			if l, _ := dom.Retained(g, v); !slices.Equal(l, retained) {
				t.Fatalf("Retained of %v by %d: %v, then %v", g, v, retained, l)
			}
		}
	}
}
