package ideal_test

import (
	"math"
	"slices"
	"testing"

	"ragpicker/api"
	"ragpicker/ideal"
)

// some has a register for each kind of what may have a field, and for numbers: an object of two fields, one of MaxFields, one of none, and a number.
func some() api.Graph {
	return api.Graph{Objects: objs(obj(num(5), ref(1)), obj(ref(0), num(6), num(7), num(8)), obj()), Roots: vals(ref(0), ref(1), ref(2), num(9))}
}

func endOfSome() api.Graph { return ends(some().Roots, some().Objects...) }

type wrongDo struct {
	name string
	d    api.Do
	want api.Errno
}

// holdWrong holds that each of these is told its error, and nothing else, that it changes nothing, and that what comes after it goes on.
func holdWrong(t *testing.T, cases []wrongDo) {
	t.Helper()
	seen := outs(has(2), has(4), has(0), told(9), bad(0), bad(0), bad(0), bad(0))
	for _, c := range cases {
		list, want := append(script(c.d), tellAll()...), append(outs(bad(c.want)), seen...)
		holdPlay(t, c.name, some(), list, want, endOfSome())
		// What comes ahead of it stays as well.
		list = append(script(create(7, 1), put(7, 0, 0), c.d, get(6, 7, 0), same(6, 0)), tellAll()...)
		want = slices.Concat(fine(2), outs(bad(c.want), bad(0), told(1)), seen[:6], outs(has(2), has(1)))
		end := ends(append(allRegisters(some().Roots...)[:6], ref(0), ref(3)), append(some().Objects, obj(ref(0)))...)
		holdPlay(t, c.name+", in the midst", some(), list, want, end)
	}
}

var noRegisters = []int{-1, -2, math.MinInt, math.MinInt32, api.MaxRoots, api.MaxRoots + 1, 100, 1 << 32, 1<<32 + 1, math.MaxInt - 1, math.MaxInt}

var noKinds = []int{-1, 0, api.DWork, api.DSweep, api.DSweep + 1, -api.DNew, -api.DTell, math.MinInt, math.MaxInt, 1 << 32, 1<<32 + api.DNew, 1<<32 + api.DTell}

func TestOtherKinds(t *testing.T) {
	for _, kind := range noKinds {
		holdWrong(t, []wrongDo{
			{"another kind", api.Do{Kind: kind, To: 1, From: 3, N: 1}, api.ErrKind},
			{"another kind, of numbers", api.Do{Kind: kind, To: 3, From: 3, N: 1}, api.ErrKind},
			{"another kind, all else wrong", api.Do{Kind: kind, To: -1, From: api.MaxRoots, At: -1, N: math.MinInt64}, api.ErrKind},
			{"another kind, a wrong number", api.Do{Kind: kind, To: 1, From: 3, N: math.MaxInt64}, api.ErrKind},
			{"another kind, a wrong field", api.Do{Kind: kind, To: 1, From: 3, At: 9}, api.ErrKind},
		})
	}
}

func TestNoRegister(t *testing.T) {
	for _, r := range noRegisters {
		holdWrong(t, []wrongDo{
			{"DNew", create(r, 1), api.ErrArg},
			{"DNew, and N below 0", create(r, -1), api.ErrArg},
			{"DNew, and N above MaxFields", create(r, api.MaxFields+1), api.ErrArg},
			{"DInt", number(r, 1), api.ErrArg},
			{"DInt, and N below MinInt", number(r, api.MinInt-1), api.ErrArg},
			{"DInt, and N above MaxInt", number(r, api.MaxInt+1), api.ErrArg},
			{"DMove, to", move(r, 0), api.ErrArg},
			{"DMove, from", move(0, r), api.ErrArg},
			{"DMove, both", move(r, r), api.ErrArg},
			{"DPut, to", put(r, 0, 3), api.ErrArg},
			{"DPut, from", put(0, 0, r), api.ErrArg},
			{"DPut, both", put(r, 0, r), api.ErrArg},
			{"DPut, from, and into a number", put(3, 0, r), api.ErrArg},
			{"DPut, from, and no field", put(0, 2, r), api.ErrArg},
			{"DPut, to, and no field of any object", put(r, -1, 3), api.ErrArg},
			{"DGet, to", get(r, 0, 0), api.ErrArg},
			{"DGet, from", get(0, r, 0), api.ErrArg},
			{"DGet, both", get(r, r, 0), api.ErrArg},
			{"DGet, to, and out of a number", get(r, 3, 0), api.ErrArg},
			{"DGet, to, and no field", get(r, 0, 2), api.ErrArg},
			{"DGet, from, and no field of any object", get(0, r, -1), api.ErrArg},
			{"DSame, to", same(r, 0), api.ErrArg},
			{"DSame, from", same(0, r), api.ErrArg},
			{"DSame, both", same(r, r), api.ErrArg},
			{"DTell", tell(r), api.ErrArg},
		})
	}
}

func TestNumbersOutOfRange(t *testing.T) {
	for r := range 4 {
		for _, n := range []int64{-1, -2, -api.MaxFields, api.MaxFields + 1, api.MaxFields + 2, 256, 1 << 32, 1<<32 + 1, api.MinInt, api.MaxInt, math.MinInt64, math.MaxInt64} {
			holdWrong(t, []wrongDo{{"DNew", create(r, n), api.ErrRange}})
		}
		for _, n := range []int64{api.MinInt - 1, api.MinInt - 2, api.MaxInt + 1, api.MaxInt + 2, math.MinInt64, math.MinInt64 + 1, math.MaxInt64 - 1, math.MaxInt64} {
			holdWrong(t, []wrongDo{{"DInt", number(r, n), api.ErrRange}})
		}
	}
}

func TestFieldsOfNumbers(t *testing.T) {
	for _, at := range []int{0, 1, -1, api.MaxFields - 1, api.MaxFields, math.MinInt, math.MaxInt} {
		for _, r := range []int{3, 4, 7} {
			for other := range 4 {
				list := script(put(r, at, other), get(other, r, at))
				holdPlay(t, "of a number", some(), list, outs(bad(api.ErrKind), bad(api.ErrKind)), endOfSome())
			}
		}
	}
	holdWrong(t, []wrongDo{
		{"DPut into a number", put(3, 0, 0), api.ErrKind},
		{"DPut of a number into it", put(3, 0, 3), api.ErrKind},
		{"DPut into a number, no field of any object", put(3, -1, 0), api.ErrKind},
		{"DGet out of a number", get(0, 3, 0), api.ErrKind},
		{"DGet out of it, into it", get(3, 3, 0), api.ErrKind},
		{"DGet out of a number, no field of any object", get(0, 3, 4), api.ErrKind},
	})
	was := script(number(0, 1), put(0, 0, 1), get(1, 0, 0), create(0, 1), put(0, 0, 0))
	want := outs(bad(0), bad(api.ErrKind), bad(api.ErrKind), bad(0), bad(0))
	holdPlay(t, "what was an object, and will be one", some(), was, want, ends(vals(ref(0), ref(1), ref(2), num(9)), obj(ref(0)), obj(ref(3), num(6), num(7), num(8)), obj(), obj(num(5), ref(1))))
}

func TestNoField(t *testing.T) {
	sizes := []int{2, api.MaxFields, 0}
	for r, size := range sizes {
		for _, at := range []int{-1, -2, -size, size, size + 1, api.MaxFields, 256, 1 << 32, math.MinInt32, math.MinInt, math.MaxInt} {
			if at >= 0 && at < size {
				continue
			}
			for other := range 4 {
				holdWrong(t, []wrongDo{
					{"DPut", put(r, at, other), api.ErrRange},
					{"DGet", get(other, r, at), api.ErrRange},
				})
			}
		}
	}
}

// TestFieldsOfNewOnes: for each number of fields the last one is one, and the one behind it isn't.
func TestFieldsOfNewOnes(t *testing.T) {
	for fields := range api.MaxFields + 1 {
		for at := -1; at <= api.MaxFields+1; at++ {
			list := script(create(0, int64(fields)), number(1, 7), put(0, at, 1), get(2, 0, at), tell(2))
			want, roots, made := append(fine(4), told(7)), vals(ref(0), num(7), num(7)), obj(make([]api.Value, fields)...)
			if at < 0 || at >= fields {
				want, roots = outs(bad(0), bad(0), bad(api.ErrRange), bad(api.ErrRange), bad(0)), vals(ref(0), num(7))
			} else {
				made.Fields[at] = num(7)
			}
			holdPlay(t, "a new one's field", api.Graph{}, list, want, ends(roots, made))
		}
	}
}

// TestAllFaultsAtOnce holds every choice of right and wrong parts of one thing that is done against the chapter's words.
func TestAllFaultsAtOnce(t *testing.T) {
	registers := []int{0, 1, 2, 3, 7, -1, api.MaxRoots, math.MaxInt}
	numbers := []int64{api.MinInt - 1, api.MinInt, -1, 0, api.MaxFields, api.MaxFields + 1, api.MaxInt, api.MaxInt + 1}
	for kind := -1; kind <= api.DSweep+1; kind++ {
		for _, to := range registers {
			for _, from := range registers {
				for _, at := range []int{-1, 0, 1, 2, 3, 4, math.MaxInt} {
					for _, n := range numbers {
						list := append(script(api.Do{Kind: kind, To: to, From: from, At: at, N: n}), tellAll()...)
						want, end := plainPlay(some(), list)
						if holdPlay(t, "one thing", some(), list, want, end); want[0].Code != api.OK && !equalGraphs(end, endOfSome()) {
							t.Fatalf("%v: an error that changes something", list[0])
						}
					}
				}
			}
		}
	}
}

type wrongGraph struct {
	name string
	g    api.Graph
	want api.Errno
}

// wrongGraphs has graphs that may not be; each would have something to tell, if it were taken.
func wrongGraphs() []wrongGraph {
	objects, roots, fields := full(), full(), full()
	objects.Objects = append(objects.Objects, obj())
	roots.Roots = append(roots.Roots, num(0))
	fields.Objects[api.MaxObjects-1].Fields = append(fields.Objects[api.MaxObjects-1].Fields, num(0))
	all := []wrongGraph{
		{"an object too many", objects, api.ErrLarge},
		{"a root too many", roots, api.ErrLarge},
		{"a root too many, all numbers", api.Graph{Roots: make([]api.Value, api.MaxRoots+1)}, api.ErrLarge},
		{"a field too many", fields, api.ErrLarge},
		{"a field too many of what can't be come to", api.Graph{Objects: objs(obj(make([]api.Value, api.MaxFields+1)...))}, api.ErrLarge},
		{"a root to no object at all", api.Graph{Roots: vals(ref(0))}, api.ErrArg},
		{"large, a wrong reference, a wrong number", api.Graph{Objects: objects.Objects, Roots: vals(ref(-1), num(api.MaxInt+1))}, api.ErrLarge},
		{"a wrong number ahead of a wrong reference", api.Graph{Objects: objs(obj(ref(1))), Roots: vals(num(api.MaxInt + 1))}, api.ErrArg},
	}
	for _, n := range []int64{-1, 2, api.MinInt, api.MaxInt, math.MinInt64, math.MaxInt64, 1 << 32} {
		all = append(all,
			wrongGraph{"a root to no object", api.Graph{Objects: objs(obj(), obj()), Roots: vals(ref(0), ref(n))}, api.ErrArg},
			wrongGraph{"a field to no object", api.Graph{Objects: objs(obj(num(1), ref(n)), obj()), Roots: vals(ref(0))}, api.ErrArg},
			wrongGraph{"a field to no object, of what can't be come to", api.Graph{Objects: objs(obj(), obj(ref(0), ref(n))), Roots: vals(ref(0))}, api.ErrArg})
	}
	for _, n := range []int64{api.MinInt - 1, api.MaxInt + 1, math.MinInt64, math.MaxInt64} {
		all = append(all,
			wrongGraph{"a root that is a wrong number", api.Graph{Roots: vals(num(0), num(n))}, api.ErrRange},
			wrongGraph{"a field that is a wrong number", api.Graph{Objects: objs(obj(num(n))), Roots: vals(ref(0))}, api.ErrRange},
			wrongGraph{"a wrong number, of what can't be come to", api.Graph{Objects: objs(obj(), obj(num(n))), Roots: vals(ref(0))}, api.ErrRange})
	}
	return all
}

// holdError holds that Play tells want, and nothing beside it.
func holdError(t *testing.T, name string, g api.Graph, list []api.Do, want api.Errno) {
	t.Helper()
	if l, end, e := ideal.Play(g, list); e != want || len(l) != 0 || !isZeroGraph(end) {
		t.Errorf("%s: %v %v %d, want %d alone", name, l, end, e, want)
	}
}

// TestWrongGraphs: whatever the script is, also where it is too long, what is wrong with the graph is told first.
func TestWrongGraphs(t *testing.T) {
	for _, c := range wrongGraphs() {
		for _, n := range []int{0, 1, api.MaxScript, api.MaxScript + 1, 1000} {
			holdError(t, c.name, c.g, slices.Repeat(script(number(0, 1)), n), c.want)
			holdError(t, c.name+", wrong things", c.g, make([]api.Do, n), c.want)
		}
	}
}

func TestLongScripts(t *testing.T) {
	for _, d := range []api.Do{create(1, 4), number(1, 3), move(1, 0), put(0, 0, 0), get(1, 0, 0), same(0, 1), tell(0), {}, tell(-1)} {
		for _, g := range []api.Graph{{}, some(), full()} {
			for _, n := range []int{api.MaxScript - 1, api.MaxScript} {
				list := slices.Repeat(script(d), n)
				want, end := plainPlay(g, list)
				if len(want) != n {
					t.Fatalf("%d told of %d", len(want), n)
				}
				holdPlay(t, "a long script", g, list, want, end)
			}
			for _, n := range []int{api.MaxScript + 1, api.MaxScript + 2, 100000} {
				holdError(t, "a script too long", g, slices.Repeat(script(d), n), api.ErrLarge)
			}
		}
	}
}

// TestWrongOnesOnly: a whole script of such.
func TestWrongOnesOnly(t *testing.T) {
	list := script(api.Do{}, create(-1, 0), create(0, -1), number(0, api.MaxInt+1), put(3, 0, 0), put(0, 2, 0), get(0, 0, -1), same(8, 0), tell(8), api.Do{Kind: api.DWork}, api.Do{Kind: api.DSweep})
	const kind, arg, reach = api.ErrKind, api.ErrArg, api.ErrRange
	want := outs(bad(kind), bad(arg), bad(reach), bad(reach), bad(kind), bad(reach), bad(reach), bad(arg), bad(arg), bad(kind), bad(kind))
	holdPlay(t, "wrong ones only", some(), list, want, endOfSome())
}
