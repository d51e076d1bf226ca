package count_test

import (
	"slices"
	"testing"

	"ragpicker/api"
	"ragpicker/ideal"
)

// TestAllSmallScripts holds all scripts of up to three or four things, out of some, against the plain memory.
func TestAllSmallScripts(t *testing.T) {
	things := script(create(0, 0), create(0, 1), create(1, 2), number(0, 1), number(1, 0), move(0, 1), move(1, 0),
		put(0, 0, 0), put(0, 0, 1), put(1, 0, 0), put(1, 1, 1), get(0, 0, 0), get(0, 1, 1), get(1, 0, 0), same(0, 1), tell(0), tell(1))
	graphs := []api.Graph{
		{},
		graphOf(vals(ref(0), ref(1)), to(1), obj(num(1), ref(0))),
		graphOf(vals(ref(0), ref(0)), to(2, 1), to(2), obj()),
	}
	for i, g := range graphs {
		for _, room := range []int{2, 3, api.MaxRoom} {
			most := 3
			if i > 0 && room == 3 {
				most = 4
			}
			for list := range smallScripts(things, most) {
				hold(t, "small", g, room, list, plainPlay(g, room, list))
			}
		}
	}
}

// TestAllSmallGraphs holds all graphs of three objects of two fields and of two roots against the plain memory.
func TestAllSmallGraphs(t *testing.T) {
	choice := func(n int) api.Value {
		if n%4 == 3 {
			return num(1)
		}
		return ref(int64(n % 4))
	}
	list := script(create(7, 0), number(0, 0), number(1, 0))
	for n := range 1 << 16 {
		var made []api.Value
		for at := range 8 {
			made = append(made, choice(n>>(2*at)))
		}
		g := graphOf(made[6:], obj(made[:2]...), obj(made[2:4]...), obj(made[4:6]...))
		hold(t, "three objects", g, 3, list, plainPlay(g, 3, list))
		hold(t, "three objects, no script", g, 3, nil, plainPlay(g, 3, nil))
	}
}

// seen is what a test looks for among many answers: how often there was enough of it.
type seen struct {
	done                             map[int]int
	wrong                            map[api.Errno]int
	before, later, deep, round, none int
}

func (s *seen) look(g api.Graph, list []api.Do, c api.Counted) {
	for i, o := range c.Outs {
		if o.Code != api.OK {
			s.wrong[o.Code]++
			continue
		}
		s.done[list[i].Kind]++
	}
	p := newPlain(g, 1)
	s.before += len(p.gone)
	s.later += len(c.Gone) - len(p.gone)
	if len(c.There) == 0 {
		s.none++
	}
}

// TestManyScripts holds thrown scripts against the plain memory, and looks whether there is enough of each kind among them.
func TestManyScripts(t *testing.T) {
	d := dice(1)
	s := seen{done: map[int]int{}, wrong: map[api.Errno]int{}}
	for range 10000 {
		g, room, list := d.play()
		p := newPlain(g, room)
		want := p.doAll(list)
		hold(t, "thrown", g, room, list, want)
		s.look(g, list, want)
		if p.goesRound() {
			s.round++
		}
		if moreAtOnce(g, room, list) {
			s.deep++
		}
	}
	for kind := api.DNew; kind <= api.DTell; kind++ {
		if s.done[kind] < 5000 {
			t.Errorf("%d of kind %d", s.done[kind], kind)
		}
	}
	if len(s.done) != 7 || len(s.wrong) != 4 || min(s.wrong[api.ErrKind], s.wrong[api.ErrArg], s.wrong[api.ErrRange], s.wrong[api.ErrFull]) < 2000 {
		t.Errorf("too few of a kind: %v %v", s.done, s.wrong)
	}
	if min(s.before, s.later) < 10000 || min(s.deep, s.round, s.none) < 200 {
		t.Errorf("%d went ahead of scripts, %d later; %d times three at once; %d have circles in the end, %d nothing", s.before, s.later, s.deep, s.round, s.none)
	}
}

// moreAtOnce tells whether one thing that is done lets three objects go.
func moreAtOnce(g api.Graph, room int, list []api.Do) bool {
	p := newPlain(g, room)
	for _, d := range list {
		before := len(p.gone)
		if p.do(d); len(p.gone) > before+2 {
			return true
		}
	}
	return false
}

// without has just the things that are told something else than an error, and what is told of them.
func without(list []api.Do, l []api.Out, isLeft func(e api.Errno) bool) (rest []api.Do, told []api.Out) {
	for i, o := range l {
		if !isLeft(o.Code) {
			rest, told = append(rest, list[i]), append(told, o)
		}
	}
	return rest, told
}

// TestTellsWhatIdealTells: without the things for which there was no room, a memory without end tells the same.
func TestTellsWhatIdealTells(t *testing.T) {
	d := dice(2)
	all := 0
	for range 5000 {
		g, room, list := d.play()
		c := must(t, g, room, list)
		rest, want := without(list, c.Outs, func(e api.Errno) bool { return e == api.ErrFull })
		l, end, e := ideal.Play(g, rest)
		if e != api.OK || !slices.Equal(l, want) {
			t.Fatalf("%v %v: a memory without end tells %v, this one %v", g, rest, l, want)
		}
		if len(rest) == len(list) {
			all++
		}
		// Each object that can be come to is there; and where none leads to itself, no others are.
		p := newPlain(g, room)
		p.doAll(list)
		if len(end.Objects) > len(c.There) || len(end.Objects) != len(c.There) && !p.goesRound() {
			t.Fatalf("%v, room %d, %v: %v are there, of %d that can be come to", g, room, list, c.There, len(end.Objects))
		}
		for o := range p.come(p.slots[:]) {
			if slices.Contains(c.Gone, o) {
				t.Fatalf("%v, room %d, %v: %d went, and can be come to", g, room, list, o)
			}
		}
	}
	if all < 1000 {
		t.Errorf("%d had room for all", all)
	}
}

// TestErrorsChangeNothing: without the things that are told an error, the others are told the same, and the same objects go.
func TestErrorsChangeNothing(t *testing.T) {
	d := dice(3)
	for range 3000 {
		g, room, list := d.play()
		c := must(t, g, room, list)
		good, l := without(list, c.Outs, func(e api.Errno) bool { return e != api.OK })
		hold(t, "without errors", g, room, good, api.Counted{Outs: l, There: c.There, Gone: c.Gone})
	}
}

// TestEachObjectOnce: each one that came is there or went, and those that are there rise and have a count.
func TestEachObjectOnce(t *testing.T) {
	d := dice(4)
	for range 3000 {
		g, room, list := d.play()
		c := must(t, g, room, list)
		var came []int
		for o := range g.Objects {
			came = append(came, o)
		}
		for i, o := range c.Outs {
			if list[i].Kind == api.DNew && o.Code == api.OK {
				came = append(came, len(came))
			}
		}
		found, last := slices.Clone(c.Gone), -1
		for _, one := range c.There {
			if one.Object <= last || one.N < 1 {
				t.Fatalf("%v, room %d, %v: %v are there", g, room, list, c.There)
			}
			last = one.Object
			found = append(found, one.Object)
		}
		slices.Sort(found)
		if !slices.Equal(found, came) {
			t.Fatalf("%v, room %d, %v: of %v there are %v, and %v went", g, room, list, came, c.There, c.Gone)
		}
		if len(c.Outs) != len(list) {
			t.Fatalf("%d things, %d told", len(list), len(c.Outs))
		}
	}
}

// TestScriptsCutShort: what is told and what went till then is the same, whatever is done later.
func TestScriptsCutShort(t *testing.T) {
	d := dice(5)
	for range 3000 {
		g, room, list := d.play()
		c, cut := must(t, g, room, list), d.below(len(list)+1)
		short := must(t, g, room, list[:cut])
		if !slices.Equal(short.Outs, c.Outs[:cut]) || len(short.Gone) > len(c.Gone) || !slices.Equal(short.Gone, c.Gone[:len(short.Gone)]) {
			t.Fatalf("%v, room %d, %v: %v, and cut behind %d: %v", g, room, list, c, cut, short)
		}
	}
}

// moved gives the object o of g the number to[o].
func moved(g api.Graph, to []int) api.Graph {
	turn := func(list []api.Value) []api.Value {
		out := slices.Clone(list)
		for i, v := range out {
			if v.Ref {
				out[i].N = int64(to[v.N])
			}
		}
		return out
	}
	m := api.Graph{Objects: make([]api.Object, len(g.Objects)), Roots: turn(g.Roots)}
	for o := range g.Objects {
		m.Objects[to[o]].Fields = turn(g.Objects[o].Fields)
	}
	return m
}

// TestOtherNumbers: where the graph's objects have other numbers, the same is told, and the same ones are there with the same counts.
func TestOtherNumbers(t *testing.T) {
	d := dice(6)
	for range 3000 {
		g, room, list := d.play()
		c := must(t, g, room, list)
		turned := make([]int, len(g.Objects))
		for i := range turned {
			j := d.below(i + 1)
			turned[i], turned[j] = turned[j], i
		}
		want := slices.Clone(c.There)
		for i, one := range want {
			if one.Object < len(turned) {
				want[i].Object = turned[one.Object]
			}
		}
		slices.SortFunc(want, func(a, b api.Count) int { return a.Object - b.Object })
		other := must(t, moved(g, turned), room, list)
		if !slices.Equal(other.Outs, c.Outs) || !slices.Equal(other.There, want) || len(other.Gone) != len(c.Gone) {
			t.Fatalf("%v, room %d, %v: %v, and with the numbers %v: %v", g, room, list, c, turned, other)
		}
	}
}
