package count_test

import (
	"math"
	"slices"
	"testing"

	"ragpicker/api"
	"ragpicker/count"
)

// some has a register for an object of two fields, for one of MaxFields, for one of none, and for a number; each object but the last has one in its fields that nothing else holds, and each of the others is in just one register.
func some() api.Graph {
	return graphOf(vals(ref(0), ref(1), ref(2), num(9)), obj(num(5), ref(3)), obj(ref(4), num(6), num(7), num(8)), obj(), obj(), obj(num(1)))
}

func countsOfSome() []api.Count { return there(0, 1, 1, 1, 2, 1, 3, 1, 4, 1) }

type wrongDo struct {
	name string
	d    api.Do
	want api.Errno
}

// holdWrong holds that each of these is told its error, and nothing else, that it changes nothing and lets nothing go, and that what comes after it goes on.
func holdWrong(t *testing.T, cases []wrongDo) {
	t.Helper()
	seen := outs(has(2), has(4), has(0), told(9), bad(0), bad(0), bad(0), bad(0))
	for _, c := range cases {
		want := api.Counted{Outs: outs(bad(c.want)), There: countsOfSome()}
		hold(t, c.name+", alone", some(), api.MaxRoom, script(c.d), want)
		want.Outs = append(want.Outs, seen...)
		hold(t, c.name, some(), api.MaxRoom, append(script(c.d), tellAll()...), want)
		// What comes ahead of it stays as well, and what comes behind it is done.
		list := append(script(create(7, 1), put(7, 0, 0), c.d, get(6, 7, 0), same(6, 0), number(1, 9)), tellAll()...)
		want.Outs = slices.Concat(fine(2), outs(bad(c.want), bad(0), told(1), bad(0), has(2), told(9)), seen[2:6], outs(has(2), has(1)))
		want.There, want.Gone = there(0, 3, 2, 1, 3, 1, 5, 1), gone(1, 4)
		hold(t, c.name+", in the midst", some(), api.MaxRoom, list, want)
	}
}

var noRegisters = []int{-1, -2, math.MinInt, math.MinInt32, api.MaxRoots, api.MaxRoots + 1, 100, 1 << 32, 1<<32 + 1, math.MaxInt - 1, math.MaxInt}

var noKinds = []int{-1, 0, api.DWork, api.DSweep, api.DSweep + 1, -api.DNew, -api.DTell, math.MinInt, math.MaxInt, 1 << 32, 1<<32 + api.DNew, 1<<32 + api.DTell}

func TestOtherKinds(t *testing.T) {
	for _, kind := range noKinds {
		holdWrong(t, []wrongDo{
			{"another kind", api.Do{Kind: kind, To: 1, From: 3, N: 1}, api.ErrKind},
			{"another kind, of objects", api.Do{Kind: kind, To: 0, From: 1, N: 1}, api.ErrKind},
			{"another kind, of numbers", api.Do{Kind: kind, To: 3, From: 3, N: 1}, api.ErrKind},
			{"another kind, all else wrong", api.Do{Kind: kind, To: -1, From: api.MaxRoots, At: -1, N: math.MinInt64}, api.ErrKind},
			{"another kind, a wrong number", api.Do{Kind: kind, To: 1, From: 3, N: math.MaxInt64}, api.ErrKind},
			{"another kind, a wrong field", api.Do{Kind: kind, To: 1, From: 3, At: 9}, api.ErrKind},
		})
	}
}

func TestNoRegister(t *testing.T) {
	for _, r := range noRegisters {
		holdWrong(t, []wrongDo{
			{"DNew", create(r, 1), api.ErrArg},
			{"DNew, and N below 0", create(r, -1), api.ErrArg},
			{"DNew, and N above MaxFields", create(r, api.MaxFields+1), api.ErrArg},
			{"DInt", number(r, 1), api.ErrArg},
			{"DInt, and N below MinInt", number(r, api.MinInt-1), api.ErrArg},
			{"DInt, and N above MaxInt", number(r, api.MaxInt+1), api.ErrArg},
			{"DMove, to", move(r, 0), api.ErrArg},
			{"DMove, from", move(0, r), api.ErrArg},
			{"DMove, both", move(r, r), api.ErrArg},
			{"DPut, to", put(r, 0, 3), api.ErrArg},
			{"DPut, from", put(0, 1, r), api.ErrArg},
			{"DPut, both", put(r, 0, r), api.ErrArg},
			{"DPut, from, and into a number", put(3, 0, r), api.ErrArg},
			{"DPut, from, and no field", put(0, 2, r), api.ErrArg},
			{"DPut, to, and no field of any object", put(r, -1, 3), api.ErrArg},
			{"DGet, to", get(r, 0, 0), api.ErrArg},
			{"DGet, from", get(0, r, 0), api.ErrArg},
			{"DGet, both", get(r, r, 0), api.ErrArg},
			{"DGet, to, and out of a number", get(r, 3, 0), api.ErrArg},
			{"DGet, to, and no field", get(r, 0, 2), api.ErrArg},
			{"DGet, from, and no field of any object", get(0, r, -1), api.ErrArg},
			{"DSame, to", same(r, 0), api.ErrArg},
			{"DSame, from", same(0, r), api.ErrArg},
			{"DSame, both", same(r, r), api.ErrArg},
			{"DTell", tell(r), api.ErrArg},
		})
	}
}

func TestNumbersOutOfRange(t *testing.T) {
	for r := range 4 {
		for _, n := range []int64{-1, -2, -api.MaxFields, api.MaxFields + 1, api.MaxFields + 2, 256, 1 << 32, 1<<32 + 1, api.MinInt, api.MaxInt, math.MinInt64, math.MaxInt64} {
			holdWrong(t, []wrongDo{{"DNew", create(r, n), api.ErrRange}})
		}
		for _, n := range []int64{api.MinInt - 1, api.MinInt - 2, api.MaxInt + 1, api.MaxInt + 2, math.MinInt64, math.MinInt64 + 1, math.MaxInt64 - 1, math.MaxInt64} {
			holdWrong(t, []wrongDo{{"DInt", number(r, n), api.ErrRange}})
		}
	}
}

func TestFieldsOfNumbers(t *testing.T) {
	for _, at := range []int{0, 1, -1, api.MaxFields - 1, api.MaxFields, math.MinInt, math.MaxInt} {
		for _, r := range []int{3, 4} {
			for other := range 4 {
				holdWrong(t, []wrongDo{
					{"DPut into a number", put(r, at, other), api.ErrKind},
					{"DGet out of a number", get(other, r, at), api.ErrKind},
				})
			}
		}
	}
}

// TestFieldsOfWhatWent: a register that had an object has no fields any more.
func TestFieldsOfWhatWent(t *testing.T) {
	list := script(number(0, 0), put(0, 0, 1), get(1, 0, 0), tell(0))
	want := api.Counted{Outs: outs(bad(0), bad(api.ErrKind), bad(api.ErrKind), told(0)), There: there(1, 1, 2, 1, 4, 1), Gone: gone(0, 3)}
	hold(t, "what went", some(), api.MaxRoom, list, want)
}

func TestNoField(t *testing.T) {
	sizes := []int{2, api.MaxFields, 0}
	for r, size := range sizes {
		for _, at := range []int{-1, -2, -size, size, size + 1, api.MaxFields, 256, 1 << 32, math.MinInt32, math.MinInt, math.MaxInt} {
			if at >= 0 && at < size {
				continue
			}
			for other := range 4 {
				holdWrong(t, []wrongDo{
					{"DPut", put(r, at, other), api.ErrRange},
					{"DGet", get(other, r, at), api.ErrRange},
				})
			}
		}
	}
}

// TestAllFaultsAtOnce holds every choice of right and wrong parts of one thing that is done, where there is room and where there is none, against the chapters' words.
func TestAllFaultsAtOnce(t *testing.T) {
	registers := []int{0, 1, 2, 3, 7, -1, api.MaxRoots, math.MaxInt}
	numbers := []int64{api.MinInt - 1, api.MinInt, -1, 0, api.MaxFields, api.MaxFields + 1, api.MaxInt, api.MaxInt + 1}
	for kind := -1; kind <= api.DSweep+1; kind++ {
		for _, to := range registers {
			for _, from := range registers {
				for _, at := range []int{-1, 0, 1, 2, 3, 4, math.MaxInt} {
					for _, n := range numbers {
						list := append(script(api.Do{Kind: kind, To: to, From: from, At: at, N: n}), tellAll()...)
						for _, room := range []int{5, 6} {
							want := plainPlay(some(), room, list)
							if hold(t, "one thing", some(), room, list, want); want.Outs[0].Code != api.OK && !slices.Equal(want.There, countsOfSome()) {
								t.Fatalf("%v: an error that changes something", list[0])
							}
						}
					}
				}
			}
		}
	}
}

// TestWrongOnesOnly: a whole script of such.
func TestWrongOnesOnly(t *testing.T) {
	list := script(api.Do{}, create(-1, 0), create(0, -1), create(0, 0), number(0, api.MaxInt+1), put(3, 0, 0), put(0, 2, 0), get(0, 0, -1), same(8, 0), tell(8), api.Do{Kind: api.DWork}, api.Do{Kind: api.DSweep})
	const kind, arg, reach = api.ErrKind, api.ErrArg, api.ErrRange
	want := outs(bad(kind), bad(arg), bad(reach), bad(api.ErrFull), bad(reach), bad(kind), bad(reach), bad(reach), bad(arg), bad(arg), bad(kind), bad(kind))
	hold(t, "wrong ones only", some(), 5, list, api.Counted{Outs: want, There: countsOfSome()})
}

type wrongGraph struct {
	name string
	g    api.Graph
	want api.Errno
}

// wrongGraphs has graphs that may not be; each would have something to tell, if it were taken.
func wrongGraphs() []wrongGraph {
	objects, roots, fields := full(), full(), full()
	objects.Objects = append(objects.Objects, obj())
	roots.Roots = append(roots.Roots, num(0))
	fields.Objects[api.MaxObjects-1].Fields = append(fields.Objects[api.MaxObjects-1].Fields, num(0))
	all := []wrongGraph{
		{"an object too many", objects, api.ErrLarge},
		{"an object too many, all of which would go", api.Graph{Objects: make([]api.Object, api.MaxObjects+1)}, api.ErrLarge},
		{"a root too many", roots, api.ErrLarge},
		{"a root too many, all numbers", api.Graph{Roots: make([]api.Value, api.MaxRoots+1)}, api.ErrLarge},
		{"a field too many", fields, api.ErrLarge},
		{"a field too many of what would go", graphOf(nil, obj(make([]api.Value, api.MaxFields+1)...)), api.ErrLarge},
		{"a root to no object at all", graphOf(vals(ref(0))), api.ErrArg},
		{"large, a wrong reference, a wrong number", graphOf(vals(ref(-1), num(api.MaxInt+1)), objects.Objects...), api.ErrLarge},
		{"a wrong number ahead of a wrong reference", graphOf(vals(num(api.MaxInt+1)), to(1)), api.ErrArg},
	}
	for _, n := range []int64{-1, 2, api.MinInt, api.MaxInt, math.MinInt64, math.MaxInt64, 1 << 32} {
		all = append(all,
			wrongGraph{"a root to no object", graphOf(vals(ref(0), ref(n)), obj(), obj()), api.ErrArg},
			wrongGraph{"a field to no object", graphOf(vals(ref(0)), obj(num(1), ref(n)), obj()), api.ErrArg},
			wrongGraph{"a field to no object, of what would go", graphOf(vals(ref(0)), obj(), to(0, n)), api.ErrArg})
	}
	for _, n := range []int64{api.MinInt - 1, api.MaxInt + 1, math.MinInt64, math.MaxInt64} {
		all = append(all,
			wrongGraph{"a root that is a wrong number", graphOf(vals(num(0), num(n)), obj()), api.ErrRange},
			wrongGraph{"a field that is a wrong number", graphOf(vals(ref(0)), obj(num(n))), api.ErrRange},
			wrongGraph{"a wrong number, of what would go", graphOf(nil, obj(), obj(num(n))), api.ErrRange})
	}
	return all
}

var (
	rooms   = []int{1, 2, api.MaxRoom - 1, api.MaxRoom}
	noRooms = []int{0, -1, -api.MaxRoom, math.MinInt, api.MaxRoom + 1, api.MaxRoom + 2, 1 << 32, 1<<32 + 1, math.MaxInt}
)

// holdError holds that Play tells want, and nothing beside it.
func holdError(t *testing.T, name string, g api.Graph, room int, list []api.Do, want api.Errno) {
	t.Helper()
	if c, e := count.Play(g, room, list); e != want || !equal(c, api.Counted{}) {
		t.Errorf("%s: room %d, %d things: %v %d, want %d alone", name, room, len(list), c, e, want)
	}
}

// TestWrongGraphs: what is wrong with the graph is told first, whatever the room and the script are.
func TestWrongGraphs(t *testing.T) {
	for _, c := range wrongGraphs() {
		for _, room := range append(noRooms, rooms...) {
			for _, n := range []int{0, 1, api.MaxScript, api.MaxScript + 1} {
				holdError(t, c.name, c.g, room, slices.Repeat(script(number(0, 1)), n), c.want)
				holdError(t, c.name+", wrong things", c.g, room, make([]api.Do, n), c.want)
			}
		}
	}
}

// TestWrongRooms: they are told ahead of a script that is too long.
func TestWrongRooms(t *testing.T) {
	for _, g := range []api.Graph{{}, some(), full(), graphOf(nil, obj())} {
		for _, n := range []int{0, 1, api.MaxScript, api.MaxScript + 1, 1000} {
			list := slices.Repeat(script(number(0, 1)), n)
			for _, room := range noRooms {
				holdError(t, "no room", g, room, list, api.ErrRange)
			}
			for _, room := range rooms {
				if n > api.MaxScript {
					holdError(t, "a script too long", g, room, list, api.ErrLarge)
					continue
				}
				hold(t, "a room", g, room, list, plainPlay(g, room, list))
			}
		}
	}
}

func TestLongScripts(t *testing.T) {
	for _, d := range []api.Do{create(1, 4), number(1, 3), move(1, 0), put(0, 0, 0), get(1, 0, 0), same(0, 1), tell(0), {}, tell(-1)} {
		for _, g := range []api.Graph{{}, some(), full()} {
			for _, n := range []int{api.MaxScript - 1, api.MaxScript} {
				list := slices.Repeat(script(d), n)
				want := plainPlay(g, api.MaxRoom, list)
				if len(want.Outs) != n {
					t.Fatalf("%d told of %d", len(want.Outs), n)
				}
				hold(t, "a long script", g, api.MaxRoom, list, want)
			}
			for _, n := range []int{api.MaxScript + 1, api.MaxScript + 2, 100000} {
				holdError(t, "a script too long", g, api.MaxRoom, slices.Repeat(script(d), n), api.ErrLarge)
			}
		}
	}
}
