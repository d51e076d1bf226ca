package ideal_test

import (
	"iter"
	"slices"
	"testing"

	"ragpicker/api"
	"ragpicker/ideal"
)

func num(n int64) api.Value { return api.Value{N: n} }

func ref(n int64) api.Value { return api.Value{Ref: true, N: n} }

func vals(list ...api.Value) []api.Value { return list }

func obj(list ...api.Value) api.Object { return api.Object{Fields: list} }

func objs(list ...api.Object) []api.Object { return list }

// What is done, as 'to', 'from' and 'at' stand in the chapter's words.

func create(to int, fields int64) api.Do { return api.Do{Kind: api.DNew, To: to, N: fields} }

func number(to int, n int64) api.Do { return api.Do{Kind: api.DInt, To: to, N: n} }

func move(to, from int) api.Do { return api.Do{Kind: api.DMove, To: to, From: from} }

func put(to, at, from int) api.Do { return api.Do{Kind: api.DPut, To: to, At: at, From: from} }

func get(to, from, at int) api.Do { return api.Do{Kind: api.DGet, To: to, From: from, At: at} }

func same(to, from int) api.Do { return api.Do{Kind: api.DSame, To: to, From: from} }

func tell(from int) api.Do { return api.Do{Kind: api.DTell, From: from} }

func script(list ...api.Do) []api.Do { return list }

// What is told.

func told(n int64) api.Out { return api.Out{N: n} }

func has(fields int64) api.Out { return api.Out{Ref: true, N: fields} }

func bad(e api.Errno) api.Out { return api.Out{Code: e} }

func outs(list ...api.Out) []api.Out { return list }

// fine has as many Outs that tell nothing.
func fine(n int) []api.Out { return make([]api.Out, n) }

// allRegisters has numbers 0 for the registers behind the first ones.
func allRegisters(first ...api.Value) []api.Value {
	return append(slices.Clone(first), make([]api.Value, api.MaxRoots-len(first))...)
}

// ends is what Play tells in the end, where the first registers have such values, and these objects can be come to.
func ends(roots []api.Value, objects ...api.Object) api.Graph {
	return api.Graph{Objects: objects, Roots: allRegisters(roots...)}
}

// tellAll has a DTell for each register.
func tellAll() (list []api.Do) {
	for r := range api.MaxRoots {
		list = append(list, tell(r))
	}
	return list
}

// equalGraphs takes an empty list for the same, whether nil or not.
func equalGraphs(a, b api.Graph) bool {
	return slices.Equal(a.Roots, b.Roots) && slices.EqualFunc(a.Objects, b.Objects, func(x, y api.Object) bool {
		return slices.Equal(x.Fields, y.Fields)
	})
}

func isZeroGraph(g api.Graph) bool { return len(g.Objects) == 0 && len(g.Roots) == 0 }

func cloneGraph(g api.Graph) api.Graph {
	c := api.Graph{Roots: slices.Clone(g.Roots)}
	for _, o := range g.Objects {
		c.Objects = append(c.Objects, api.Object{Fields: slices.Clone(o.Fields)})
	}
	return c
}

// holdPlay holds what Play tells against what it must.
func holdPlay(t *testing.T, name string, g api.Graph, list []api.Do, wantOuts []api.Out, wantEnd api.Graph) {
	t.Helper()
	l, end, e := ideal.Play(g, list)
	if e != api.OK || !slices.Equal(l, wantOuts) {
		t.Fatalf("%s: Play(%v, %v): %v %d, want %v", name, g, list, l, e, wantOuts)
	}
	if !equalGraphs(end, wantEnd) {
		t.Fatalf("%s: Play(%v, %v): the end is %v, want %v", name, g, list, end, wantEnd)
	}
}

type playCase struct {
	name string
	list []api.Do
	outs []api.Out
	end  api.Graph
}

func runPlays(t *testing.T, g api.Graph, cases []playCase) {
	t.Helper()
	for _, c := range cases {
		holdPlay(t, c.name, g, c.list, c.outs, c.end)
	}
}

// full is as large as a graph may be: each object refers to itself and to the last one, and has the least and the greatest number.
func full() api.Graph {
	g := api.Graph{}
	for o := range int64(api.MaxObjects) {
		g.Objects = append(g.Objects, obj(ref(o), ref(api.MaxObjects-1), num(api.MinInt), num(api.MaxInt)))
	}
	for r := range int64(api.MaxRoots) {
		g.Roots = append(g.Roots, ref(r))
	}
	return g
}

// cell is an object of the plain memory that the tests keep: it has no number, and what refers to it points at it.
type cell struct{ fields []slot }

// slot has what a register or a field has: a cell, or else a number.
type slot struct {
	to *cell
	n  int64
}

// plain is a memory that is kept by pointers alone.
type plain struct{ slots [api.MaxRoots]slot }

func newPlain(g api.Graph) *plain {
	p := &plain{}
	cells := make([]*cell, len(g.Objects))
	for o := range cells {
		cells[o] = &cell{}
	}
	turn := func(v api.Value) slot {
		if v.Ref {
			return slot{to: cells[v.N]}
		}
		return slot{n: v.N}
	}
	for o, c := range cells {
		for _, v := range g.Objects[o].Fields {
			c.fields = append(c.fields, turn(v))
		}
	}
	for r, v := range g.Roots {
		p.slots[r] = turn(v)
	}
	return p
}

// field tells the field that is asked for, or what is wrong with it.
func (p *plain) field(register, at int) (*slot, api.Errno) {
	c := p.slots[register].to
	if c == nil {
		return nil, api.ErrKind
	}
	if at < 0 || at > len(c.fields)-1 {
		return nil, api.ErrRange
	}
	return &c.fields[at], api.OK
}

// lacks tells whether one of some registers is none.
func lacks(registers ...int) bool {
	return slices.ContainsFunc(registers, func(r int) bool { return uint(r) >= api.MaxRoots })
}

func (p *plain) do(d api.Do) api.Out {
	switch d.Kind {
	case api.DNew:
		if lacks(d.To) {
			return bad(api.ErrArg)
		}
		if uint64(d.N) > api.MaxFields {
			return bad(api.ErrRange)
		}
		p.slots[d.To] = slot{to: &cell{make([]slot, d.N)}}
	case api.DInt:
		if lacks(d.To) {
			return bad(api.ErrArg)
		}
		if d.N>>62 != d.N>>63 {
			return bad(api.ErrRange)
		}
		p.slots[d.To] = slot{n: d.N}
	case api.DMove:
		if lacks(d.To, d.From) {
			return bad(api.ErrArg)
		}
		p.slots[d.To] = p.slots[d.From]
	case api.DPut, api.DGet:
		return bad(p.doField(d))
	case api.DSame:
		if lacks(d.To, d.From) {
			return bad(api.ErrArg)
		}
		if p.slots[d.To] == p.slots[d.From] {
			return told(1)
		}
	case api.DTell:
		if lacks(d.From) {
			return bad(api.ErrArg)
		}
		if s := p.slots[d.From]; s.to == nil {
			return told(s.n)
		}
		return has(int64(len(p.slots[d.From].to.fields)))
	default:
		return bad(api.ErrKind)
	}
	return api.Out{}
}

// doField does what needs a field and two registers.
func (p *plain) doField(d api.Do) api.Errno {
	if lacks(d.To, d.From) {
		return api.ErrArg
	}
	if d.Kind == api.DPut {
		f, e := p.field(d.To, d.At)
		if e == api.OK {
			*f = p.slots[d.From]
		}
		return e
	}
	f, e := p.field(d.From, d.At)
	if e == api.OK {
		p.slots[d.To] = *f
	}
	return e
}

// end tells all that can be come to from the registers, as it is found.
func (p *plain) end() api.Graph {
	number, order := map[*cell]int64{}, []*cell(nil)
	turn := func(list []slot) (made []api.Value) {
		for _, s := range list {
			if s.to == nil {
				made = append(made, num(s.n))
				continue
			}
			if _, ok := number[s.to]; !ok {
				number[s.to] = int64(len(order))
				order = append(order, s.to)
			}
			made = append(made, ref(number[s.to]))
		}
		return made
	}
	g := api.Graph{Roots: turn(p.slots[:])}
	for i := 0; i < len(order); i++ {
		g.Objects = append(g.Objects, api.Object{Fields: turn(order[i].fields)})
	}
	return g
}

func plainPlay(g api.Graph, list []api.Do) (l []api.Out, end api.Graph) {
	p := newPlain(g)
	for _, d := range list {
		l = append(l, p.do(d))
	}
	return l, p.end()
}

// dice throws the same numbers each time.
type dice uint64

func (d *dice) below(n int) int {
	*d = *d*6364136223846793005 + 1442695040888963407
	return int(uint64(*d>>33) % uint64(n))
}

func (d *dice) value(objects int) api.Value {
	if objects > 0 && d.below(3) > 0 {
		return ref(int64(d.below(objects)))
	}
	return num(int64(d.below(3)) - 1)
}

func (d *dice) graph() api.Graph {
	g := api.Graph{}
	n := d.below(api.MaxObjects + 1)
	for range n {
		var fields []api.Value
		for range d.below(api.MaxFields + 1) {
			fields = append(fields, d.value(n))
		}
		g.Objects = append(g.Objects, api.Object{Fields: fields})
	}
	for range d.below(api.MaxRoots + 1) {
		g.Roots = append(g.Roots, d.value(n))
	}
	return g
}

// register throws one out of so many, and now and then a wrong one.
func (d *dice) register(many int) int {
	if d.below(60) == 0 {
		return []int{-1, api.MaxRoots, api.MaxRoots + d.below(300), -d.below(300)}[d.below(4)]
	}
	return d.below(many)
}

// do throws what is to be done with so many registers, with objects of so many fields at most: most of it is of the kinds that there are.
func (d *dice) do(registers, fields int) api.Do {
	kinds := []int{api.DNew, api.DNew, api.DInt, api.DMove, api.DPut, api.DPut, api.DPut, api.DGet, api.DGet, api.DSame, api.DTell}
	made := api.Do{Kind: kinds[d.below(len(kinds))], To: d.register(registers), From: d.register(registers), At: d.below(fields+2) - d.below(2), N: int64(d.below(fields + 1))}
	switch d.below(60) {
	case 0:
		made.Kind = d.below(14) - 2
	case 1:
		made.N = []int64{-1, api.MinInt - 1, api.MinInt, api.MaxInt, api.MaxInt + 1, api.MaxFields + 1}[d.below(6)]
	}
	return made
}

// play throws a graph and a script, of few registers or many, and with small objects or larger ones. In some scripts, what one register has grows and grows, by a new object in front of it.
func (d *dice) play() (g api.Graph, list []api.Do) {
	if d.below(3) > 0 {
		g = d.graph()
	}
	registers, fields := 1+d.below(api.MaxRoots), 1+d.below(api.MaxFields)
	length, chance := d.below(api.MaxScript+1), max(0, d.below(16)-8)
	for len(list) < length {
		if d.below(8) < chance {
			list = append(list, create(6, int64(fields)), put(6, d.below(fields), 7), move(7, 6))
			continue
		}
		list = append(list, d.do(registers, fields))
	}
	return g, list[:min(len(list), api.MaxScript)]
}

// smallScripts goes through all scripts of at most so many things out of some. What is told of one is not to be kept.
func smallScripts(some []api.Do, most int) iter.Seq[[]api.Do] {
	return func(yield func([]api.Do) bool) {
		var grow func(list []api.Do) bool
		grow = func(list []api.Do) bool {
			if !yield(list) {
				return false
			}
			for _, d := range some {
				if len(list) < most && !grow(append(list, d)) {
					return false
				}
			}
			return true
		}
		grow(make([]api.Do, 0, most))
	}
}
