package count_test

import (
	"math"
	"slices"
	"testing"

	"ragpicker/api"
)

// TestRoom: a new object is made while there are fewer than room of them.
func TestRoom(t *testing.T) {
	full := bad(api.ErrFull)
	three := graphOf(vals(ref(0), ref(1), ref(2)), obj(), obj(), obj())
	cases := []struct {
		name string
		g    api.Graph
		room int
		list []api.Do
		want api.Counted
	}{
		{"none there, room 1", api.Graph{}, 1, script(create(0, 0)), api.Counted{Outs: fine(1), There: there(0, 1)}},
		{"one there, room 1", api.Graph{}, 1, script(create(0, 0), create(1, 0)), api.Counted{Outs: outs(bad(0), full), There: there(0, 1)}},
		{"one there, room 2", api.Graph{}, 2, script(create(0, 0), create(1, 0)), api.Counted{Outs: fine(2), There: there(0, 1, 1, 1)}},
		{"one fewer than room", three, 4, script(create(3, 1), tell(3)), api.Counted{Outs: outs(bad(0), has(1)), There: there(0, 1, 1, 1, 2, 1, 3, 1)}},
		{"as many as room", three, 3, script(create(3, 1), tell(3)), api.Counted{Outs: outs(full, bad(0)), There: there(0, 1, 1, 1, 2, 1)}},
		{"one more than room", three, 2, script(create(3, 1), tell(3)), api.Counted{Outs: outs(full, bad(0)), There: there(0, 1, 1, 1, 2, 1)}},
		{"two more than room", three, 1, script(create(3, 1), tell(3)), api.Counted{Outs: outs(full, bad(0)), There: there(0, 1, 1, 1, 2, 1)}},
		{"the first one that is one too many", three, 5, script(create(3, 0), create(4, 0), create(5, 0), create(6, 0)), api.Counted{Outs: outs(bad(0), bad(0), full, full), There: there(0, 1, 1, 1, 2, 1, 3, 1, 4, 1)}},

		{"an object that would go only by this", three, 3, script(create(0, 0), tell(0)), api.Counted{Outs: outs(full, has(0)), There: there(0, 1, 1, 1, 2, 1)}},
		{"room 1, and the only one would go by this", api.Graph{}, 1, script(create(0, 2), create(0, 1), tell(0)), api.Counted{Outs: outs(bad(0), full, has(2)), There: there(0, 1)}},
		{"it goes where there is room", three, 4, script(create(0, 0)), api.Counted{Outs: fine(1), There: there(1, 1, 2, 1, 3, 1), Gone: gone(0)}},

		{"what went makes room", three, 3, script(create(3, 0), number(1, 0), create(3, 0)), api.Counted{Outs: outs(full, bad(0), bad(0)), There: there(0, 1, 2, 1, 3, 1), Gone: gone(1)}},
		{"for one and no more", three, 3, script(number(1, 0), create(3, 0), create(4, 0)), api.Counted{Outs: outs(bad(0), bad(0), full), There: there(0, 1, 2, 1, 3, 1), Gone: gone(1)}},
		{"two went, of three, where room is 2", three, 2, script(number(1, 0), create(3, 0), number(0, 0), create(3, 0)), api.Counted{Outs: outs(bad(0), full, bad(0), bad(0)), There: there(2, 1, 3, 1), Gone: gone(1, 0)}},
		{"what goes by a field", graphOf(vals(ref(0)), to(1), to(2), obj()), 3, script(create(1, 0), put(0, 0, 7), create(1, 0), create(2, 0), create(3, 0)), api.Counted{Outs: outs(full, bad(0), bad(0), bad(0), full), There: there(0, 1, 3, 1, 4, 1), Gone: gone(1, 2)}},
		{"what went ahead of the script", graphOf(vals(ref(1)), to(2), obj(), obj()), 2, script(create(1, 0), create(2, 0), create(3, 0)), api.Counted{Outs: outs(bad(0), full, full), There: there(1, 1, 3, 1), Gone: gone(0, 2)}},
	}
	for _, c := range cases {
		hold(t, c.name, c.g, c.room, c.list, c.want)
	}
}

// TestCirclesKeepTheirRoom: what stays though nobody can come to it is there.
func TestCirclesKeepTheirRoom(t *testing.T) {
	full := bad(api.ErrFull)
	hold(t, "of the graph", graphOf(nil, to(0), to(2), to(1)), 4, script(create(0, 0), create(1, 0)), api.Counted{Outs: outs(bad(0), full), There: there(0, 1, 1, 1, 2, 1, 3, 1)})
	hold(t, "new ones", api.Graph{}, 2, script(create(0, 1), put(0, 0, 0), create(0, 1), put(0, 0, 0), create(0, 1), number(0, 0), create(0, 1)), api.Counted{Outs: outs(bad(0), bad(0), bad(0), bad(0), full, bad(0), full), There: there(0, 1, 1, 1)})
	hold(t, "cut", api.Graph{}, 1, script(create(0, 1), put(0, 0, 0), create(1, 0), put(0, 0, 7), create(1, 0), number(0, 0), create(1, 0)), api.Counted{Outs: outs(bad(0), bad(0), full, bad(0), full, bad(0), bad(0)), There: there(1, 1), Gone: gone(0)})
}

// TestEachRoom: with a graph of as many as there may be, which all stay, each number of new ones is made that there is room for, in a chain, and no more.
func TestEachRoom(t *testing.T) {
	own := api.Graph{}
	for o := range int64(api.MaxObjects) {
		own.Objects = append(own.Objects, to(o))
	}
	for room := 1; room <= api.MaxRoom; room++ {
		made := max(0, room-api.MaxObjects)
		var list []api.Do
		for n := range made {
			list = append(list, create(n%2, 1), put(n%2, 0, 1-n%2))
		}
		list = append(list, create(made%2, 1), create(7, 0))
		want := api.Counted{Outs: append(fine(2*made), bad(api.ErrFull), bad(api.ErrFull))}
		for o := range api.MaxObjects + made {
			want.There = append(want.There, api.Count{Object: o, N: 1})
		}
		// All but the last one are in a field, and the last two are in a register.
		if made > 1 {
			want.There[api.MaxObjects+made-2].N = 2
		}
		hold(t, "each room", own, room, list, want)
	}
}

// TestManyComeAndGo: there may be more objects than room, one after the other.
func TestManyComeAndGo(t *testing.T) {
	many := slices.Repeat(script(create(0, 4), number(0, 0)), api.MaxScript/2)
	want := api.Counted{Outs: fine(api.MaxScript)}
	for o := range api.MaxScript / 2 {
		want.Gone = append(want.Gone, o)
	}
	hold(t, "many, one by one", api.Graph{}, 1, many, want)
}

// TestFullIsToldLast: behind all that chapter 13 tells of DNew.
func TestFullIsToldLast(t *testing.T) {
	for _, c := range []wrongDo{
		{"nothing else", create(0, 0), api.ErrFull},
		{"the greatest object", create(7, api.MaxFields), api.ErrFull},
		{"no register", create(8, 0), api.ErrArg},
		{"no register, below 0", create(-1, 0), api.ErrArg},
		{"no register, and too many fields", create(math.MaxInt, api.MaxFields+1), api.ErrArg},
		{"too many fields", create(0, api.MaxFields+1), api.ErrRange},
		{"fewer fields than none", create(0, -1), api.ErrRange},
		{"another kind", api.Do{Kind: api.DWork}, api.ErrKind},
		{"a number", number(4, 3), api.OK},
	} {
		for room := 1; room <= 5; room++ {
			list := append(script(c.d, tell(0)), create(5, 1))
			want := outs(bad(c.want), has(2), bad(api.ErrFull))
			hold(t, c.name, some(), room, list, api.Counted{Outs: want, There: countsOfSome()})
		}
	}
}
