package count_test

import (
	"slices"

	"ragpicker/api"
)

// plain is a memory that keeps no counts: whenever it needs one it looks through all that there is.
type plain struct {
	room  int
	slots [api.MaxRoots]api.Value
	cells []cell // all objects that ever came
	gone  []int
}

type cell struct {
	fields []api.Value
	gone   bool
}

// newPlain has g's objects and roots, without those that go ahead of the script.
func newPlain(g api.Graph, room int) *plain {
	p := &plain{room: room}
	for _, o := range g.Objects {
		p.cells = append(p.cells, cell{fields: slices.Clone(o.Fields)})
	}
	copy(p.slots[:], g.Roots)
	for o := range p.cells {
		p.look(ref(int64(o)))
	}
	return p
}

// count looks for all references to an object. What has gone has none any more in the fields that are done with.
func (p *plain) count(o int) (n int) {
	for _, v := range p.slots {
		if v == ref(int64(o)) {
			n++
		}
	}
	for _, c := range p.cells {
		for _, v := range c.fields {
			if v == ref(int64(o)) {
				n++
			}
		}
	}
	return n
}

// look lets the object of a value go, if nothing refers to it any more.
func (p *plain) look(v api.Value) {
	if !v.Ref || p.cells[v.N].gone || p.count(int(v.N)) > 0 {
		return
	}
	c := &p.cells[v.N]
	c.gone = true
	p.gone = append(p.gone, int(v.N))
	for at := range c.fields {
		p.lay(&c.fields[at], num(0))
	}
}

// lay has a value stand where another one stood.
func (p *plain) lay(place *api.Value, v api.Value) {
	was := *place
	*place = v
	p.look(was)
}

func (p *plain) there() (list []api.Count) {
	for o, c := range p.cells {
		if !c.gone {
			list = append(list, api.Count{Object: o, N: p.count(o)})
		}
	}
	return list
}

// field tells the field that is asked for, or what is wrong with it.
func (p *plain) field(register, at int) (*api.Value, api.Errno) {
	v := p.slots[register]
	if !v.Ref {
		return nil, api.ErrKind
	}
	if at < 0 || at > len(p.cells[v.N].fields)-1 {
		return nil, api.ErrRange
	}
	return &p.cells[v.N].fields[at], api.OK
}

// lacks tells whether one of some registers is none.
func lacks(registers ...int) bool {
	return slices.ContainsFunc(registers, func(r int) bool { return uint(r) >= api.MaxRoots })
}

// isWrong tells what chapters 13 and 14 say of what is to be done, error by error.
func (p *plain) isWrong(d api.Do) api.Errno {
	registers := map[int][]int{
		api.DNew: {d.To}, api.DInt: {d.To}, api.DTell: {d.From},
		api.DMove: {d.To, d.From}, api.DPut: {d.To, d.From}, api.DGet: {d.To, d.From}, api.DSame: {d.To, d.From},
	}
	needed, ok := registers[d.Kind]
	if !ok {
		return api.ErrKind
	}
	if lacks(needed...) {
		return api.ErrArg
	}
	e := api.OK
	switch d.Kind {
	case api.DNew:
		if uint64(d.N) > api.MaxFields {
			return api.ErrRange
		}
		if len(p.there()) >= p.room {
			return api.ErrFull
		}
	case api.DInt:
		if d.N>>62 != d.N>>63 {
			return api.ErrRange
		}
	case api.DPut:
		_, e = p.field(d.To, d.At)
	case api.DGet:
		_, e = p.field(d.From, d.At)
	}
	return e
}

func (p *plain) do(d api.Do) api.Out {
	if e := p.isWrong(d); e != api.OK {
		return bad(e)
	}
	switch d.Kind {
	case api.DNew:
		p.cells = append(p.cells, cell{fields: make([]api.Value, d.N)})
		p.lay(&p.slots[d.To], ref(int64(len(p.cells)-1)))
	case api.DInt:
		p.lay(&p.slots[d.To], num(d.N))
	case api.DMove:
		p.lay(&p.slots[d.To], p.slots[d.From])
	case api.DPut:
		f, _ := p.field(d.To, d.At)
		p.lay(f, p.slots[d.From])
	case api.DGet:
		f, _ := p.field(d.From, d.At)
		p.lay(&p.slots[d.To], *f)
	case api.DSame:
		if p.slots[d.To] == p.slots[d.From] {
			return told(1)
		}
	case api.DTell:
		if v := p.slots[d.From]; v.Ref {
			return has(int64(len(p.cells[v.N].fields)))
		}
		return told(p.slots[d.From].N)
	}
	return api.Out{}
}

// doAll does a whole script, and tells what Play must.
func (p *plain) doAll(list []api.Do) api.Counted {
	var l []api.Out
	for _, d := range list {
		l = append(l, p.do(d))
	}
	return api.Counted{Outs: l, There: p.there(), Gone: p.gone}
}

func plainPlay(g api.Graph, room int, list []api.Do) api.Counted {
	return newPlain(g, room).doAll(list)
}

// come tells which objects can be come to from some values.
func (p *plain) come(list []api.Value) map[int]bool {
	found := map[int]bool{}
	var from func(list []api.Value)
	from = func(list []api.Value) {
		for _, v := range list {
			if v.Ref && !found[int(v.N)] {
				found[int(v.N)] = true
				from(p.cells[v.N].fields)
			}
		}
	}
	from(list)
	return found
}

// goesRound tells whether an object that is there leads to itself.
func (p *plain) goesRound() bool {
	for o, c := range p.cells {
		if !c.gone && p.come(c.fields)[o] {
			return true
		}
	}
	return false
}
