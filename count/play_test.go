package count_test

import (
	"math"
	"slices"
	"testing"

	"ragpicker/api"
)

func TestExample(t *testing.T) {
	g := graphOf(vals(ref(0)), to(1), to(0))
	hold(t, "example", g, 2, script(number(0, 0)), api.Counted{Outs: fine(1), There: there(0, 1, 1, 1)})
}

// TestRegistersChange: what goes when a register becomes something else, by each kind that changes one.
func TestRegistersChange(t *testing.T) {
	g := graphOf(vals(ref(0), ref(2), num(7)), to(1), obj(num(5)), to(3), obj())
	runPlays(t, g, []playCase{
		{"nothing", nil, nil, nil, there(0, 1, 1, 1, 2, 1, 3, 1)},
		{"DInt", script(number(0, 1)), nil, gone(0, 1), there(2, 1, 3, 1)},
		{"DInt, the number of its object", script(number(0, 0)), nil, gone(0, 1), there(2, 1, 3, 1)},
		{"DInt, of the other one", script(number(1, 0)), nil, gone(2, 3), there(0, 1, 1, 1)},
		{"DInt in place of a number", script(number(2, 3)), nil, nil, there(0, 1, 1, 1, 2, 1, 3, 1)},
		{"DInt of both", script(number(1, 0), number(0, 0)), nil, gone(2, 3, 0, 1), nil},
		{"DNew", script(create(0, 2)), nil, gone(0, 1), there(2, 1, 3, 1, 4, 1)},
		{"DNew in place of a number", script(create(2, 2)), nil, nil, there(0, 1, 1, 1, 2, 1, 3, 1, 4, 1)},
		{"DNew in place of a new one", script(create(2, 2), create(2, 1)), nil, gone(4), there(0, 1, 1, 1, 2, 1, 3, 1, 5, 1)},
		{"DMove of another one", script(move(0, 1)), nil, gone(0, 1), there(2, 2, 3, 1)},
		{"DMove of a number", script(move(1, 2)), nil, gone(2, 3), there(0, 1, 1, 1)},
		{"DMove of a number that was never set", script(move(1, 7)), nil, gone(2, 3), there(0, 1, 1, 1)},
		{"DMove in place of a number", script(move(2, 0)), nil, nil, there(0, 2, 1, 1, 2, 1, 3, 1)},
		{"DMove, and the first one becomes a number", script(move(2, 0), number(0, 0)), nil, nil, there(0, 1, 1, 1, 2, 1, 3, 1)},
		{"DMove, and both become numbers", script(move(2, 0), number(0, 0), number(2, 0)), nil, gone(0, 1), there(2, 1, 3, 1)},
		{"DGet of another one's field", script(get(0, 1, 0)), nil, gone(0, 1), there(2, 1, 3, 2)},
		{"DGet of its own field", script(get(0, 0, 0)), nil, gone(0), there(1, 1, 2, 1, 3, 1)},
		{"DGet of a number", script(get(3, 0, 0), get(1, 3, 0)), nil, gone(2, 3), there(0, 1, 1, 2)},
		{"DGet in place of a number", script(get(2, 0, 0)), nil, nil, there(0, 1, 1, 2, 2, 1, 3, 1)},
		{"DGet, and its object goes", script(get(2, 0, 0), number(0, 0)), nil, gone(0), there(1, 1, 2, 1, 3, 1)},
		{"DSame and DTell change nothing", script(same(0, 1), tell(0), same(0, 0), tell(2)), outs(told(0), has(1), told(1), told(7)), nil, there(0, 1, 1, 1, 2, 1, 3, 1)},
	})
}

// TestEachRegister: each one holds what it has.
func TestEachRegister(t *testing.T) {
	for r := range api.MaxRoots {
		runPlays(t, graphOf(nil), []playCase{
			{"it holds", script(create(r, 0)), nil, nil, there(0, 1)},
			{"and holds no more", script(create(r, 0), number(r, 0)), nil, gone(0), nil},
			{"another one", script(create(r, 0), create(r, 0)), nil, gone(0), there(1, 1)},
		})
		var list []api.Do
		for other := range api.MaxRoots {
			list = append(list, move(other, r))
		}
		runPlays(t, graphOf(nil), []playCase{{"as many counts as registers", append(script(create(r, 0)), list...), nil, nil, there(0, api.MaxRoots)}})
	}
}

// TestFieldsChange: what goes when a field becomes something else.
func TestFieldsChange(t *testing.T) {
	g := graphOf(vals(ref(0), ref(2), num(7)), to(1), to(3), obj(), obj())
	runPlays(t, g, []playCase{
		{"a number", script(put(0, 0, 2)), nil, gone(1, 3), there(0, 1, 2, 1)},
		{"another one", script(put(0, 0, 1)), nil, gone(1, 3), there(0, 1, 2, 2)},
		{"itself", script(put(0, 0, 0)), nil, gone(1, 3), there(0, 2, 2, 1)},
		{"what it was", script(get(3, 0, 0), put(0, 0, 3)), nil, nil, there(0, 1, 1, 2, 2, 1, 3, 1)},
		{"a new one", script(create(2, 0), put(0, 0, 2)), nil, gone(1, 3), there(0, 1, 2, 1, 4, 2)},
		{"a new one, in no register any more", script(create(2, 0), put(0, 0, 2), number(2, 0)), nil, gone(1, 3), there(0, 1, 2, 1, 4, 1)},
		{"held by a register", script(get(3, 0, 0), put(0, 0, 2)), nil, nil, there(0, 1, 1, 1, 2, 1, 3, 1)},
		{"held by a register, till then", script(get(3, 0, 0), put(0, 0, 2), number(3, 0)), nil, gone(1, 3), there(0, 1, 2, 1)},
		{"of what is behind a field", script(get(3, 0, 0), put(3, 0, 2)), nil, gone(3), there(0, 1, 1, 2, 2, 1)},
		{"twice", script(put(0, 0, 1), put(0, 0, 2)), nil, gone(1, 3), there(0, 1, 2, 1)},
		{"in place of a number", script(create(2, 2), put(2, 0, 1), put(2, 1, 1)), nil, nil, there(0, 1, 1, 1, 2, 3, 3, 1, 4, 1)},
	})
}

// TestCountedFirst: what comes to stand in the place of another value is counted before that stops to stand there.
func TestCountedFirst(t *testing.T) {
	g := graphOf(vals(ref(0)), obj(ref(1), ref(0), num(4)), to(2), obj())
	counts := there(0, 2, 1, 1, 2, 1)
	runPlays(t, g, []playCase{
		{"the same one, in a register", script(move(0, 0)), nil, nil, counts},
		{"the same one, got from its own field", script(get(0, 0, 1)), nil, nil, counts},
		{"the same one, in a field", script(put(0, 1, 0)), nil, nil, counts},
		{"the same one, in another field", script(put(0, 2, 0)), nil, nil, there(0, 3, 1, 1, 2, 1)},
		{"into its own field, in place of what it alone had", script(put(0, 0, 0)), nil, gone(1, 2), there(0, 3)},
		{"a field in place of its object", script(put(0, 1, 5), get(0, 0, 0)), nil, gone(0), there(1, 1, 2, 1)},
		{"and once more", script(put(0, 1, 5), get(0, 0, 0), get(0, 0, 0)), nil, gone(0, 1), there(2, 1)},
		{"a number in place of its object", script(put(0, 1, 5), get(0, 0, 2), tell(0)), outs(bad(0), bad(0), told(4)), gone(0, 1, 2), nil},
		{"the same one got where it stands", script(get(3, 0, 0), get(3, 0, 0)), nil, nil, there(0, 2, 1, 2, 2, 1)},
		{"the same one put where it stands", script(get(3, 0, 0), put(0, 0, 3), number(3, 0)), nil, nil, counts},
	})
	alone := graphOf(vals(ref(0), num(3)), obj())
	runPlays(t, alone, []playCase{
		{"the only one there is", script(move(0, 0), move(0, 0)), nil, nil, there(0, 1)},
		{"a number in its own place", script(move(1, 1)), nil, nil, there(0, 1)},
	})
	// What is got leads to what goes, and holds it.
	up := graphOf(vals(ref(0)), obj(ref(1), num(0)), obj(num(0), ref(0)))
	runPlays(t, up, []playCase{{"what is got holds what it was got from", script(get(0, 0, 0)), nil, nil, there(0, 1, 1, 2)}})
}

// TestTheOrderInWhichTheyGo: field by field, and what goes at once goes with all that goes by it.
func TestTheOrderInWhichTheyGo(t *testing.T) {
	cases := []struct {
		name  string
		g     api.Graph
		gone  []int
		there []api.Count
	}{
		{"a chain", graphOf(vals(ref(0)), to(1), to(2), to(3), obj()), gone(0, 1, 2, 3), nil},
		{"a chain the other way", graphOf(vals(ref(3)), obj(), to(0), to(1), to(2)), gone(3, 2, 1, 0), nil},
		{"all fields", graphOf(vals(ref(4)), obj(), obj(), obj(), obj(), to(2, 0, 3, 1)), gone(4, 2, 0, 3, 1), nil},
		{"a tree", graphOf(vals(ref(0)), to(1, 2), to(3, 4), to(5, 6), obj(), obj(), obj(), obj()), gone(0, 1, 3, 4, 2, 5, 6), nil},
		{"a tree of other numbers", graphOf(vals(ref(6)), obj(), to(3, 0), obj(), obj(), obj(), to(4, 2), to(5, 1)), gone(6, 5, 4, 2, 1, 3, 0), nil},
		{"the depth ahead of the next field", graphOf(vals(ref(0)), to(1, 4), to(2), to(3), obj(), obj()), gone(0, 1, 2, 3, 4), nil},
		{"numbers between", graphOf(vals(ref(0)), obj(num(3), ref(2), num(1), ref(1)), obj(), obj(num(1))), gone(0, 2, 1), nil},
		{"by two fields of one", graphOf(vals(ref(0)), to(1, 1), obj()), gone(0, 1), nil},
		{"by two fields, with another one between", graphOf(vals(ref(0)), to(1, 2, 1), obj(), obj()), gone(0, 2, 1), nil},
		{"by all fields of one", graphOf(vals(ref(1)), obj(), to(0, 0, 0, 0)), gone(1, 0), nil},
		{"held by a field that is still to come", graphOf(vals(ref(0)), to(1, 3, 2), to(2), obj(), obj()), gone(0, 1, 3, 2), nil},
		{"held by the next field of one further up", graphOf(vals(ref(0)), to(1, 3), to(2), to(3, 4), obj(), obj()), gone(0, 1, 2, 4, 3), nil},
		{"by one after the other", graphOf(vals(ref(0)), to(1, 2, 3), to(4), to(4), to(4), obj()), gone(0, 1, 2, 3, 4), nil},
		{"what is shared with a register", graphOf(vals(ref(0), ref(2)), to(1, 2, 3), to(2), to(4), obj(), obj()), gone(0, 1, 3), there(2, 1, 4, 1)},
		{"what is shared with an object that stays", graphOf(vals(ref(0), ref(3)), to(1, 2), to(2), obj(), to(2, 1)), gone(0), there(1, 1, 2, 2, 3, 1)},
		{"it has a circle that stays", graphOf(vals(ref(0)), to(1, 3), to(2), to(1), obj()), gone(0, 3), there(1, 1, 2, 1)},
		{"it has one that points at itself", graphOf(vals(ref(0)), to(1, 2), to(1, 3), obj(), obj()), gone(0, 2), there(1, 1, 3, 1)},
		{"in a circle itself", graphOf(vals(ref(0)), to(1, 2), to(0), obj()), nil, there(0, 1, 1, 1, 2, 1)},
	}
	for _, c := range cases {
		// The root becomes something else, by each kind that changes it, or the field does that is its only holder.
		n := len(c.g.Objects)
		made := append(slices.Clone(c.there), there(n, 1)...)
		runPlays(t, c.g, []playCase{
			{c.name + ", DInt", script(number(0, 0)), nil, c.gone, c.there},
			{c.name + ", DMove", script(move(0, 7)), nil, c.gone, c.there},
			{c.name + ", DNew", script(create(0, 1)), nil, c.gone, made},
			{c.name + ", DGet", script(create(6, 1), get(0, 6, 0)), nil, c.gone, made},
			{c.name + ", DPut", script(create(6, 1), put(6, 0, 0), number(0, 0), put(6, 0, 7)), nil, c.gone, made},
			{c.name + ", with its holder", script(create(6, 1), put(6, 0, 0), number(0, 0), number(6, 0)), nil, append(gone(n), c.gone...), c.there},
		})
	}
}

// TestCircles: they stay, until they are cut.
func TestCircles(t *testing.T) {
	two := graphOf(vals(ref(0), ref(1)), to(1), to(0))
	runPlays(t, two, []playCase{
		{"both in registers", nil, nil, nil, there(0, 2, 1, 2)},
		{"one of them", script(number(0, 0)), nil, nil, there(0, 1, 1, 2)},
		{"none of them", script(number(0, 0), number(1, 0)), nil, nil, there(0, 1, 1, 1)},
		{"cut, and held", script(put(1, 0, 7), number(1, 0)), nil, nil, there(0, 1, 1, 1)},
		{"cut, and not held", script(put(1, 0, 7), number(0, 0)), nil, gone(0), there(1, 1)},
		{"cut, and none held", script(put(1, 0, 7), number(0, 0), number(1, 0)), nil, gone(0, 1), nil},
		{"cut behind what holds it", script(number(1, 0), put(0, 0, 7)), nil, gone(1), there(0, 1)},
		{"cut behind what holds it, which goes", script(number(1, 0), put(0, 0, 7), number(0, 0)), nil, gone(1, 0), nil},
	})
	own := graphOf(vals(ref(0)), to(0, 1), obj())
	runPlays(t, own, []playCase{
		{"it points at itself", script(number(0, 0)), nil, nil, there(0, 1, 1, 1)},
		{"no more", script(put(0, 0, 7), number(0, 0)), nil, gone(0, 1), nil},
		{"twice, and once no more", script(put(0, 1, 0), put(0, 0, 7), number(0, 0)), nil, gone(1), there(0, 1)},
		{"a new one, in itself", script(create(1, 2), put(1, 1, 1), number(1, 0)), nil, nil, there(0, 2, 1, 1, 2, 1)},
		{"the next one's number is behind it", script(create(1, 1), put(1, 0, 1), create(1, 0)), nil, nil, there(0, 2, 1, 1, 2, 1, 3, 1)},
	})
	// 0 to 1 to 2 to 3 and back to 0; of 2 and 3 hang others.
	four := graphOf(vals(ref(0), ref(3)), to(1), to(2), to(3, 4), to(0, 5), obj(), obj())
	runPlays(t, four, []playCase{
		{"no register", script(number(0, 0), number(1, 0)), nil, nil, there(0, 1, 1, 1, 2, 1, 3, 1, 4, 1, 5, 1)},
		{"cut at its end", script(number(0, 0), put(1, 0, 7)), nil, gone(0, 1, 2, 4), there(3, 1, 5, 1)},
		{"cut at its end, and gone", script(number(0, 0), put(1, 0, 7), number(1, 0)), nil, gone(0, 1, 2, 4, 3, 5), nil},
		{"cut at its beginning", script(number(1, 0), put(0, 0, 7)), nil, gone(1, 2, 3, 5, 4), there(0, 1)},
	})
}

// TestNumbers: new ones come behind those of the graph, each by the next number, whatever went.
func TestNumbers(t *testing.T) {
	g := graphOf(vals(ref(2)), obj(), obj(), obj())
	runPlays(t, g, []playCase{
		{"all of the graph have theirs", script(create(0, 0)), nil, gone(0, 1, 2), there(3, 1)},
		{"one after the other", script(create(0, 0), create(0, 0), create(0, 0)), nil, gone(0, 1, 2, 3, 4), there(5, 1)},
		{"what is wrong has none", script(create(8, 0), create(1, -1), create(1, 5), create(1, 1)), outs(bad(api.ErrArg), bad(api.ErrRange), bad(api.ErrRange), bad(0)), gone(0, 1), there(2, 1, 3, 1)},
		{"in several registers", script(create(5, 0), create(3, 0), create(4, 0), number(3, 0), create(6, 0)), nil, gone(0, 1, 4), there(2, 1, 3, 1, 5, 1, 6, 1)},
	})
}

// TestWhatIsTold: of each kind, with all else zero, as chapter 13 has it.
func TestWhatIsTold(t *testing.T) {
	g := graphOf(vals(ref(0), ref(1), num(api.MinInt), num(9)), to(0, 1), obj(num(6)))
	list := script(tell(0), tell(1), tell(2), tell(3), tell(7), same(0, 0), same(0, 1), same(2, 3), same(4, 5), same(0, 4),
		create(7, api.MaxFields), tell(7), get(6, 7, 0), tell(6), get(6, 0, 1), same(6, 1), number(5, api.MaxInt), tell(5), move(4, 5), same(4, 5), put(7, 3, 1))
	want := outs(has(2), has(1), told(api.MinInt), told(9), told(0), told(1), told(0), told(0), told(1), told(0),
		bad(0), has(api.MaxFields), bad(0), told(0), bad(0), told(1), bad(0), told(api.MaxInt), bad(0), told(1), bad(0))
	runPlays(t, g, []playCase{{"of each kind", list, want, nil, there(0, 2, 1, 4, 2, 1)}})
	// Fields that a kind does not need are not looked at.
	loose := []api.Do{
		{Kind: api.DNew, To: 7, From: -1, At: 99, N: 1},
		{Kind: api.DInt, To: 6, From: 8, At: -5, N: 3},
		{Kind: api.DMove, To: 5, From: 0, At: 77, N: math.MinInt64},
		{Kind: api.DPut, To: 7, From: 0, At: 0, N: math.MaxInt64},
		{Kind: api.DGet, To: 4, From: 7, At: 0, N: math.MinInt64},
		{Kind: api.DSame, To: 4, From: 5, At: -9, N: math.MinInt64},
		{Kind: api.DTell, To: -1, From: 4, At: 99, N: math.MaxInt64},
	}
	runPlays(t, g, []playCase{{"what isn't needed", loose, append(fine(5), told(1), has(2)), nil, there(0, 5, 1, 2, 2, 1)}})
}
