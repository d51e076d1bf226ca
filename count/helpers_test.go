package count_test

import (
	"iter"
	"slices"
	"testing"

	"ragpicker/api"
	"ragpicker/count"
)

func num(n int64) api.Value { return api.Value{N: n} }

func ref(n int64) api.Value { return api.Value{Ref: true, N: n} }

func vals(list ...api.Value) []api.Value { return list }

func obj(list ...api.Value) api.Object { return api.Object{Fields: list} }

// to is an object whose fields are references to these.
func to(list ...int64) (o api.Object) {
	for _, n := range list {
		o.Fields = append(o.Fields, ref(n))
	}
	return o
}

func graphOf(roots []api.Value, list ...api.Object) api.Graph {
	return api.Graph{Objects: list, Roots: roots}
}

// What is done, as 'to', 'from' and 'at' stand in the words of chapter 13.

func create(to int, fields int64) api.Do { return api.Do{Kind: api.DNew, To: to, N: fields} }

func number(to int, n int64) api.Do { return api.Do{Kind: api.DInt, To: to, N: n} }

func move(to, from int) api.Do { return api.Do{Kind: api.DMove, To: to, From: from} }

func put(to, at, from int) api.Do { return api.Do{Kind: api.DPut, To: to, At: at, From: from} }

func get(to, from, at int) api.Do { return api.Do{Kind: api.DGet, To: to, From: from, At: at} }

func same(to, from int) api.Do { return api.Do{Kind: api.DSame, To: to, From: from} }

func tell(from int) api.Do { return api.Do{Kind: api.DTell, From: from} }

func script(list ...api.Do) []api.Do { return list }

// What is told.

func told(n int64) api.Out { return api.Out{N: n} }

func has(fields int64) api.Out { return api.Out{Ref: true, N: fields} }

func bad(e api.Errno) api.Out { return api.Out{Code: e} }

func outs(list ...api.Out) []api.Out { return list }

// fine has as many Outs that tell nothing.
func fine(n int) []api.Out { return make([]api.Out, n) }

func gone(list ...int) []int { return list }

// there has pairs: an object, and its count.
func there(pairs ...int) (list []api.Count) {
	for i := 0; i < len(pairs); i += 2 {
		list = append(list, api.Count{Object: pairs[i], N: pairs[i+1]})
	}
	return list
}

// tellAll has a DTell for each register.
func tellAll() (list []api.Do) {
	for r := range api.MaxRoots {
		list = append(list, tell(r))
	}
	return list
}

// equal takes an empty list for the same, whether nil or not.
func equal(a, b api.Counted) bool {
	return slices.Equal(a.Outs, b.Outs) && slices.Equal(a.There, b.There) && slices.Equal(a.Gone, b.Gone)
}

// hold holds what Play tells against what it must.
func hold(t *testing.T, name string, g api.Graph, room int, list []api.Do, want api.Counted) {
	t.Helper()
	c, e := count.Play(g, room, list)
	if e != api.OK || !equal(c, want) {
		t.Fatalf("%s: Play(%v, %d, %v): %v %d, want %v", name, g, room, list, c, e, want)
	}
}

// must is what Play tells where nothing may be wrong.
func must(t *testing.T, g api.Graph, room int, list []api.Do) api.Counted {
	t.Helper()
	c, e := count.Play(g, room, list)
	if e != api.OK {
		t.Fatalf("Play(%v, %d, %v): %d", g, room, list, e)
	}
	return c
}

// playCase has as outs nil where each thing that is done tells nothing.
type playCase struct {
	name  string
	list  []api.Do
	outs  []api.Out
	gone  []int
	there []api.Count
}

// runPlays holds the cases, with the greatest room and with one that just lasts for what g has and all that is made.
func runPlays(t *testing.T, g api.Graph, cases []playCase) {
	t.Helper()
	for _, c := range cases {
		want := api.Counted{Outs: c.outs, There: c.there, Gone: c.gone}
		if c.outs == nil {
			want.Outs = fine(len(c.list))
		}
		hold(t, c.name, g, api.MaxRoom, c.list, want)
		hold(t, c.name+", little room", g, max(1, len(c.there)+len(c.gone)), c.list, want)
	}
}

func cloneGraph(g api.Graph) api.Graph {
	c := api.Graph{Roots: slices.Clone(g.Roots)}
	for _, o := range g.Objects {
		c.Objects = append(c.Objects, api.Object{Fields: slices.Clone(o.Fields)})
	}
	return c
}

func equalGraphs(a, b api.Graph) bool {
	return slices.Equal(a.Roots, b.Roots) && slices.EqualFunc(a.Objects, b.Objects, func(x, y api.Object) bool {
		return slices.Equal(x.Fields, y.Fields)
	})
}

// full is as large as a graph may be: each object refers to itself and to the last one, and has the least and the greatest number.
func full() api.Graph {
	g := api.Graph{}
	for o := range int64(api.MaxObjects) {
		g.Objects = append(g.Objects, obj(ref(o), ref(api.MaxObjects-1), num(api.MinInt), num(api.MaxInt)))
	}
	for r := range int64(api.MaxRoots) {
		g.Roots = append(g.Roots, ref(r))
	}
	return g
}

// dice throws the same numbers each time.
type dice uint64

func (d *dice) below(n int) int {
	*d = *d*6364136223846793005 + 1442695040888963407
	return int(uint64(*d>>33) % uint64(n))
}

func (d *dice) value(objects int) api.Value {
	if objects > 0 && d.below(3) > 0 {
		return ref(int64(d.below(objects)))
	}
	return num(int64(d.below(3)) - 1)
}

// graph throws one of few fields or many: with few of them more goes at first.
func (d *dice) graph() api.Graph {
	g := api.Graph{}
	n, fields := d.below(api.MaxObjects+1), 1+d.below(api.MaxFields)
	for range n {
		var list []api.Value
		for range d.below(fields + 1) {
			list = append(list, d.value(n))
		}
		g.Objects = append(g.Objects, api.Object{Fields: list})
	}
	for range d.below(api.MaxRoots + 1) {
		g.Roots = append(g.Roots, d.value(n))
	}
	return g
}

// register throws one out of so many, and now and then a wrong one.
func (d *dice) register(many int) int {
	if d.below(80) == 0 {
		return []int{-1, api.MaxRoots, api.MaxRoots + d.below(300), -d.below(300)}[d.below(4)]
	}
	return d.below(many)
}

// do throws what is to be done with so many registers, with objects of so many fields at most: most of it is of the kinds that there are.
func (d *dice) do(registers, fields int) api.Do {
	kinds := []int{api.DNew, api.DNew, api.DInt, api.DMove, api.DPut, api.DPut, api.DPut, api.DGet, api.DGet, api.DSame, api.DTell}
	made := api.Do{Kind: kinds[d.below(len(kinds))], To: d.register(registers), From: d.register(registers), At: d.below(fields+1) - d.below(12)/11, N: int64(d.below(fields + 1))}
	switch d.below(80) {
	case 0:
		made.Kind = d.below(14) - 2
	case 1:
		made.N = []int64{-1, api.MinInt - 1, api.MinInt, api.MaxInt, api.MaxInt + 1, api.MaxFields + 1}[d.below(6)]
	}
	return made
}

// play throws a graph, a room and a script, of few registers or many, and with small objects or larger ones. In some scripts, what one register has grows and grows, by a new object in front of it.
func (d *dice) play() (g api.Graph, room int, list []api.Do) {
	if d.below(3) > 0 {
		g = d.graph()
	}
	room = []int{api.MaxRoom, 1 + d.below(api.MaxRoom), 1 + d.below(12)}[d.below(3)]
	registers, fields := 1+d.below(api.MaxRoots), 1+d.below(api.MaxFields)
	length, chance := d.below(api.MaxScript+1), max(0, d.below(16)-8)
	for len(list) < length {
		if d.below(8) < chance {
			list = append(list, create(6, int64(fields)), put(6, d.below(fields), 7), move(7, 6))
			continue
		}
		list = append(list, d.do(registers, fields))
	}
	return g, room, list[:min(len(list), api.MaxScript)]
}

// smallScripts goes through all scripts of at most so many things out of some. What is told of one is not to be kept.
func smallScripts(some []api.Do, most int) iter.Seq[[]api.Do] {
	return func(yield func([]api.Do) bool) {
		var grow func(list []api.Do) bool
		grow = func(list []api.Do) bool {
			if !yield(list) {
				return false
			}
			for _, d := range some {
				if len(list) < most && !grow(append(list, d)) {
					return false
				}
			}
			return true
		}
		grow(make([]api.Do, 0, most))
	}
}
