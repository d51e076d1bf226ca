package ideal_test

import (
	"slices"
	"testing"

	"ragpicker/api"
)

func TestExample(t *testing.T) {
	list := script(create(0, 1), put(0, 0, 0), get(1, 0, 0), same(0, 1))
	want := append(fine(3), told(1))
	holdPlay(t, "example", api.Graph{}, list, want, ends(vals(ref(0), ref(0)), obj(ref(0))))
}

// TestRegistersAtFirst: they have the graph's roots, in order, and the number 0 behind them.
func TestRegistersAtFirst(t *testing.T) {
	three := objs(obj(), obj(num(5), num(6)), obj(num(7)))
	cases := []struct {
		name  string
		roots []api.Value
		outs  []api.Out // of the registers that have roots
		end   api.Graph
	}{
		{"no root", nil, nil, ends(nil)},
		{"an empty list", vals(), nil, ends(nil)},
		{"a number", vals(num(4)), outs(told(4)), ends(vals(num(4)))},
		{"a number 0", vals(num(0)), outs(told(0)), ends(nil)},
		{"numbers that would be objects", vals(num(1), num(2)), outs(told(1), told(2)), ends(vals(num(1), num(2)))},
		{"the least and the greatest number", vals(num(api.MinInt), num(api.MaxInt)), outs(told(api.MinInt), told(api.MaxInt)), ends(vals(num(api.MinInt), num(api.MaxInt)))},
		{"a reference", vals(ref(1)), outs(has(2)), ends(vals(ref(0)), three[1])},
		{"a reference to an object without fields", vals(ref(0)), outs(has(0)), ends(vals(ref(0)), three[0])},
		{"references and numbers", vals(num(-1), ref(2), num(2), ref(1)), outs(told(-1), has(1), told(2), has(2)), ends(vals(num(-1), ref(0), num(2), ref(1)), three[2], three[1])},
		{"one object several times", vals(ref(2), ref(2), num(0), ref(2)), outs(has(1), has(1), told(0), has(1)), ends(vals(ref(0), ref(0), num(0), ref(0)), three[2])},
		{"MaxRoots less one", vals(ref(2), num(1), num(2), num(3), num(4), num(5), ref(1)), outs(has(1), told(1), told(2), told(3), told(4), told(5), has(2)), ends(vals(ref(0), num(1), num(2), num(3), num(4), num(5), ref(1)), three[2], three[1])},
		{"MaxRoots numbers", vals(num(8), num(7), num(6), num(5), num(4), num(3), num(2), num(1)), outs(told(8), told(7), told(6), told(5), told(4), told(3), told(2), told(1)), ends(vals(num(8), num(7), num(6), num(5), num(4), num(3), num(2), num(1)))},
		{"MaxRoots references", vals(ref(2), ref(1), ref(0), ref(2), ref(1), ref(0), ref(2), ref(1)), outs(has(1), has(2), has(0), has(1), has(2), has(0), has(1), has(2)), ends(vals(ref(0), ref(1), ref(2), ref(0), ref(1), ref(2), ref(0), ref(1)), three[2], three[1], three[0])},
	}
	for _, c := range cases {
		g := api.Graph{Objects: three, Roots: c.roots}
		holdPlay(t, c.name, g, tellAll(), append(c.outs, fine(api.MaxRoots-len(c.outs))...), c.end)
		holdPlay(t, c.name+", no script", g, nil, nil, c.end)
		holdPlay(t, c.name+", an empty script", g, script(), nil, c.end)
	}
}

// TestNewOnesAreOthers: a new object is none of the graph's, nor one that came ahead of it, also where they have the same fields.
func TestNewOnesAreOthers(t *testing.T) {
	g := api.Graph{Objects: objs(obj(num(0)), obj(num(0))), Roots: vals(ref(0), ref(1))}
	list := script(create(2, 1), create(3, 1),
		same(0, 1), same(0, 2), same(0, 3), same(1, 2), same(1, 3), same(2, 3),
		number(4, 1), put(0, 0, 4), number(4, 2), put(1, 0, 4), number(4, 3), put(2, 0, 4), number(4, 4), put(3, 0, 4),
		get(4, 0, 0), tell(4), get(4, 1, 0), tell(4), get(4, 2, 0), tell(4), get(4, 3, 0), tell(4))
	want := slices.Concat(fine(16), outs(bad(0), told(1), bad(0), told(2), bad(0), told(3), bad(0), told(4)))
	holdPlay(t, "others", g, list, want, ends(vals(ref(0), ref(1), ref(2), ref(3), num(4)), obj(num(1)), obj(num(2)), obj(num(3)), obj(num(4))))
	kept := api.Graph{Objects: objs(obj(num(7)), obj(num(8)))}
	holdPlay(t, "behind such that can't be come to", kept, script(create(0, 2), tell(0)), append(fine(1), has(2)), ends(vals(ref(0)), obj(num(0), num(0))))
}

func TestNew(t *testing.T) {
	for r := range api.MaxRoots {
		for fields := range int64(api.MaxFields + 1) {
			zeros := make([]api.Value, fields)
			roots := allRegisters()
			roots[r] = ref(0)
			holdPlay(t, "told", api.Graph{}, script(create(r, fields), tell(r)), append(fine(1), has(fields)), ends(roots, obj(zeros...)))
			list, want := script(create(r, fields)), fine(1)
			other := (r + 1) % api.MaxRoots
			for at := range int(fields) {
				list, want = append(list, number(other, 9), get(other, r, at), tell(other)), append(want, fine(3)...)
			}
			holdPlay(t, "its fields", api.Graph{}, list, want, ends(roots, obj(zeros...)))
			// The register had something else before.
			holdPlay(t, "in place of a number", api.Graph{}, script(number(r, 5), create(r, fields), tell(r)), append(fine(2), has(fields)), ends(roots, obj(zeros...)))
			holdPlay(t, "in place of another one", full(), script(create(r, fields), tell(r), same(r, other)), outs(bad(0), has(fields), bad(0)), endOfFull(r, ref(24), obj(zeros...)))
		}
	}
}

// endOfFull is the end, where of full, with more objects behind its own, just one register has another value.
func endOfFull(r int, v api.Value, more ...api.Object) api.Graph {
	g := full()
	g.Objects, g.Roots[r] = append(g.Objects, more...), v
	p := newPlain(g)
	return p.end()
}

func TestInt(t *testing.T) {
	for _, n := range []int64{0, 1, -1, 7, 255, 256, 1 << 31, -1 << 31, 1 << 32, 1<<53 + 1, api.MinInt, api.MinInt + 1, api.MaxInt - 1, api.MaxInt} {
		for r := range api.MaxRoots {
			roots := allRegisters()
			roots[r] = num(n)
			holdPlay(t, "a number", api.Graph{}, script(number(r, n), tell(r)), append(fine(1), told(n)), ends(roots))
			holdPlay(t, "in place of a number", api.Graph{}, script(number(r, 3), number(r, n), tell(r)), append(fine(2), told(n)), ends(roots))
			holdPlay(t, "in place of a reference", api.Graph{}, script(create(r, 1), number(r, n), tell(r)), append(fine(2), told(n)), ends(roots))
			holdPlay(t, "in place of a reference to a graph's", full(), script(number(r, n), tell(r)), append(fine(1), told(n)), endOfFull(r, num(n)))
		}
	}
}

func TestMove(t *testing.T) {
	g := api.Graph{Objects: objs(obj(num(5)), obj(ref(0), num(6))), Roots: vals(num(3), ref(0), ref(1))}
	of0, of1 := obj(num(5)), obj(ref(0), num(6))
	runPlays(t, g, []playCase{
		{"a number for a number", script(move(3, 0), tell(3), tell(0)), outs(bad(0), told(3), told(3)), ends(vals(num(3), ref(0), ref(1), num(3)), of0, of1)},
		{"a number for a reference", script(move(1, 0), tell(1)), outs(bad(0), told(3)), ends(vals(num(3), num(3), ref(0)), obj(ref(1), num(6)), of0)},
		{"a reference for a number", script(move(0, 1), tell(0), same(0, 1)), outs(bad(0), has(1), told(1)), ends(vals(ref(0), ref(0), ref(1)), of0, of1)},
		{"a reference for a reference", script(move(1, 2), tell(1), same(1, 2)), outs(bad(0), has(2), told(1)), ends(vals(num(3), ref(0), ref(0)), obj(ref(1), num(6)), of0)},
		{"to the last register", script(move(7, 2), tell(7)), outs(bad(0), has(2)), ends(vals(num(3), ref(0), ref(1), num(0), num(0), num(0), num(0), ref(1)), of0, of1)},
		{"from the last register", script(move(2, 7), tell(2)), outs(bad(0), told(0)), ends(vals(num(3), ref(0)), of0)},
		{"a number to its own register", script(move(0, 0), tell(0)), outs(bad(0), told(3)), ends(vals(num(3), ref(0), ref(1)), of0, of1)},
		{"a reference to its own register", script(move(2, 2), tell(2)), outs(bad(0), has(2)), ends(vals(num(3), ref(0), ref(1)), of0, of1)},
		{"what is moved stays, when the other one changes", script(move(3, 0), number(0, 8), tell(3), tell(0)), outs(bad(0), bad(0), told(3), told(8)), ends(vals(num(8), ref(0), ref(1), num(3)), of0, of1)},
		{"one object, not another one like it", script(move(3, 1), number(4, 9), put(3, 0, 4), get(5, 1, 0), tell(5)), append(fine(4), told(9)), ends(vals(num(3), ref(0), ref(1), ref(0), num(9), num(9)), obj(num(9)), of1)},
		{"round by three", script(move(3, 0), move(0, 1), move(1, 2), move(2, 3), tell(0), tell(1), tell(2)), append(fine(4), has(1), has(2), told(3)), ends(vals(ref(0), ref(1), num(3), num(3)), of0, of1)},
	})
}

func TestPutAndGet(t *testing.T) {
	g := api.Graph{Objects: objs(obj(num(5), num(6), num(7), num(8)), obj(ref(0), ref(1))), Roots: vals(ref(0), ref(1), num(9), ref(0))}
	four := func(a, b, c, d api.Value) api.Object { return obj(a, b, c, d) }
	roots := func(more ...api.Value) []api.Value { return append(vals(ref(0), ref(1), num(9), ref(0)), more...) }
	old, two := four(num(5), num(6), num(7), num(8)), obj(ref(0), ref(1))
	runPlays(t, g, []playCase{
		{"a number into the first field", script(put(0, 0, 2)), fine(1), ends(roots(), four(num(9), num(6), num(7), num(8)), two)},
		{"a number into a field between", script(put(0, 2, 2)), fine(1), ends(roots(), four(num(5), num(6), num(9), num(8)), two)},
		{"a number into the last field", script(put(0, 3, 2)), fine(1), ends(roots(), four(num(5), num(6), num(7), num(9)), two)},
		{"a number into each field", script(put(0, 0, 2), put(0, 1, 2), put(0, 2, 2), put(0, 3, 2)), fine(4), ends(roots(), four(num(9), num(9), num(9), num(9)), two)},
		{"a number over a reference", script(put(1, 0, 2)), fine(1), ends(roots(), old, obj(num(9), ref(1)))},
		{"a reference over a number", script(put(0, 1, 1)), fine(1), ends(roots(), four(num(5), ref(1), num(7), num(8)), two)},
		{"a reference over a reference", script(put(1, 0, 1)), fine(1), ends(roots(), old, obj(ref(1), ref(1)))},
		{"an object into its own field", script(put(0, 3, 0), get(4, 0, 3), same(4, 0)), append(fine(2), told(1)), ends(roots(ref(0)), four(num(5), num(6), num(7), ref(0)), two)},
		{"an object into all its own fields", script(put(1, 0, 1), put(1, 1, 1), get(1, 1, 0), get(1, 1, 1), tell(1)), append(fine(4), has(2)), ends(roots(), old, obj(ref(1), ref(1)))},
		{"by another register that refers to it", script(put(3, 1, 2), get(4, 0, 1), tell(4)), append(fine(2), told(9)), ends(roots(num(9)), four(num(5), num(9), num(7), num(8)), two)},
		{"by a register that came to refer to it", script(get(4, 1, 0), put(4, 2, 2), get(5, 3, 2), tell(5)), append(fine(3), told(9)), ends(roots(ref(0), num(9)), four(num(5), num(6), num(9), num(8)), two)},
		{"the last one that was put", script(put(0, 0, 1), put(0, 0, 2), get(4, 0, 0), tell(4)), append(fine(3), told(9)), ends(roots(num(9)), four(num(9), num(6), num(7), num(8)), two)},
		{"what is put stays, when the register changes", script(put(0, 0, 2), number(2, 1), get(4, 0, 0), tell(4)), append(fine(3), told(9)), ends(vals(ref(0), ref(1), num(1), ref(0), num(9)), four(num(9), num(6), num(7), num(8)), two)},
		{"what was got stays, when the field changes", script(get(4, 0, 0), put(0, 0, 2), tell(4)), append(fine(2), told(5)), ends(roots(num(5)), four(num(9), num(6), num(7), num(8)), two)},
		{"each field got", script(get(4, 0, 0), get(5, 0, 1), get(6, 0, 2), get(7, 0, 3)), fine(4), ends(roots(num(5), num(6), num(7), num(8)), old, two)},
		{"a reference got", script(get(4, 1, 0), tell(4), same(4, 0), same(4, 1)), outs(bad(0), has(4), told(1), bad(0)), ends(roots(ref(0)), old, two)},
		{"a reference to itself got", script(get(4, 1, 1), tell(4), same(4, 0), same(4, 1)), outs(bad(0), has(2), bad(0), told(1)), ends(roots(ref(1)), old, two)},
		{"into the register that it is got by", script(get(0, 0, 1), tell(0)), outs(bad(0), told(6)), ends(vals(num(6), ref(0), num(9), ref(1)), obj(ref(1), ref(0)), old)},
		{"a reference, into the register that it is got by", script(get(1, 1, 0), tell(1), same(0, 1)), outs(bad(0), has(4), told(1)), ends(vals(ref(0), ref(0), num(9), ref(0)), old)},
		{"over a reference", script(get(1, 0, 3), tell(1)), outs(bad(0), told(8)), ends(vals(ref(0), num(8), num(9), ref(0)), old)},
		{"by a new object, of the least and the greatest number", script(create(4, 2), number(5, api.MinInt), put(4, 0, 5), number(5, api.MaxInt), put(4, 1, 5), get(6, 4, 0), get(7, 4, 1), tell(6), tell(7)),
			append(fine(7), told(api.MinInt), told(api.MaxInt)), ends(roots(ref(2), num(api.MaxInt), num(api.MinInt), num(api.MaxInt)), old, two, obj(num(api.MinInt), num(api.MaxInt)))},
		{"a number that would be an object", script(number(2, 1), put(0, 0, 2), get(4, 0, 0), tell(4), same(4, 1)), append(fine(3), told(1), bad(0)), ends(vals(ref(0), ref(1), num(1), ref(0), num(1)), four(num(1), num(6), num(7), num(8)), two)},
	})
}

func TestRoundInCircles(t *testing.T) {
	three := script(create(0, 1), create(1, 1), create(2, 1), put(0, 0, 1), put(1, 0, 2), put(2, 0, 0))
	runPlays(t, api.Graph{}, []playCase{
		{"to itself", script(create(0, 1), put(0, 0, 0), get(0, 0, 0), get(0, 0, 0), tell(0)), append(fine(4), has(1)), ends(vals(ref(0)), obj(ref(0)))},
		{"to each other", script(create(0, 1), create(1, 2), put(0, 0, 1), put(1, 1, 0), number(1, 0), get(2, 0, 0), tell(2), get(3, 2, 1), same(3, 0), same(2, 0)),
			append(fine(6), has(2), bad(0), told(1), bad(0)), ends(vals(ref(0), num(0), ref(1), ref(0)), obj(ref(1)), obj(num(0), ref(0)))},
		{"three, and once around", append(slices.Clone(three), get(3, 0, 0), get(3, 3, 0), same(3, 2), get(3, 3, 0), same(3, 0)), append(fine(8), told(1), bad(0), told(1)), ends(vals(ref(0), ref(1), ref(2), ref(0)), obj(ref(1)), obj(ref(2)), obj(ref(0)))},
		{"three, held by one register", append(slices.Clone(three), number(0, 0), number(1, 0)), fine(8), ends(vals(num(0), num(0), ref(0)), obj(ref(1)), obj(ref(2)), obj(ref(0)))},
		{"three, held by none", append(slices.Clone(three), number(0, 0), number(1, 0), number(2, 0)), fine(9), ends(nil)},
		{"cut open again", append(slices.Clone(three), number(3, 5), put(1, 0, 3), number(1, 0), number(2, 0)), fine(10), ends(vals(ref(0), num(0), num(0), num(5)), obj(ref(1)), obj(num(5)))},
	})
}

func TestSame(t *testing.T) {
	g := api.Graph{Objects: objs(obj(num(1)), obj(num(1)), obj(), obj()), Roots: vals(ref(0), ref(1), num(0), num(1), ref(0), num(1), ref(2), ref(3))}
	group := []int{0, 1, 2, 3, 0, 3, 4, 5}
	var list []api.Do
	var want []api.Out
	for a := range api.MaxRoots {
		for b := range api.MaxRoots {
			list = append(list, same(a, b))
			want = append(want, bad(0))
			if group[a] == group[b] {
				want[len(want)-1] = told(1)
			}
		}
	}
	holdPlay(t, "all pairs", g, list, want, ends(vals(ref(0), ref(1), num(0), num(1), ref(0), num(1), ref(2), ref(3)), obj(num(1)), obj(num(1)), obj(), obj()))
}

func TestSameNumbers(t *testing.T) {
	numbers := []int64{0, 1, -1, 1 << 32, 1<<32 + 1, 1 << 53, 1<<53 + 1, api.MinInt, api.MinInt + 1, api.MaxInt - 1, api.MaxInt}
	for _, a := range numbers {
		for _, b := range numbers {
			want := append(fine(2), bad(0))
			if a == b {
				want[2] = told(1)
			}
			holdPlay(t, "two numbers", api.Graph{}, script(number(0, a), number(1, b), same(0, 1)), want, ends(vals(num(a), num(b))))
		}
	}
}

// TestSameOfNewOnes: new objects with the same fields, and what refers to them by other ways.
func TestSameOfNewOnes(t *testing.T) {
	two := script(create(0, 1), create(1, 1))
	runPlays(t, api.Graph{}, []playCase{
		{"two without fields", script(create(0, 0), create(1, 0), same(0, 1), same(0, 0)), append(fine(2), bad(0), told(1)), ends(vals(ref(0), ref(1)), obj(), obj())},
		{"two with the same fields", append(slices.Clone(two), same(0, 1), same(1, 0)), fine(4), ends(vals(ref(0), ref(1)), obj(num(0)), obj(num(0)))},
		{"two, each of which refers to itself", append(slices.Clone(two), put(0, 0, 0), put(1, 0, 1), same(0, 1)), fine(5), ends(vals(ref(0), ref(1)), obj(ref(0)), obj(ref(1)))},
		{"two, each of which refers to the other", append(slices.Clone(two), put(0, 0, 1), put(1, 0, 0), same(0, 1), get(2, 0, 0), same(2, 1)), append(fine(6), told(1)), ends(vals(ref(0), ref(1), ref(1)), obj(ref(1)), obj(ref(0)))},
		{"one by two ways", append(slices.Clone(two), create(2, 0), put(0, 0, 2), put(1, 0, 2), get(3, 0, 0), get(4, 1, 0), same(3, 4), same(3, 2)), append(fine(7), told(1), told(1)), ends(vals(ref(0), ref(1), ref(2), ref(2), ref(2)), obj(ref(2)), obj(ref(2)), obj())},
		{"a number as large as the object's", script(create(0, 0), number(1, 0), same(0, 1), create(0, 0), number(1, 1), same(0, 1)), fine(6), ends(vals(ref(0), num(1)), obj())},
		{"a register that was overwritten", script(create(0, 0), move(1, 0), create(0, 0), same(0, 1)), fine(4), ends(vals(ref(0), ref(1)), obj(), obj())},
	})
}

func TestTell(t *testing.T) {
	runPlays(t, api.Graph{}, []playCase{
		{"a number that says how many fields", script(number(0, 2), tell(0), create(0, 2), tell(0)), outs(bad(0), told(2), bad(0), has(2)), ends(vals(ref(0)), obj(num(0), num(0)))},
		{"how many, whatever they are", script(create(0, 3), put(0, 0, 0), number(1, 7), put(0, 1, 1), tell(0)), append(fine(4), has(3)), ends(vals(ref(0), num(7)), obj(ref(0), num(7), num(0)))},
		{"twice", script(create(0, 0), tell(0), tell(0)), append(fine(1), has(0), has(0)), ends(vals(ref(0)), obj())},
	})
}

// TestWhatIsNotNeeded: what a kind does not need is not looked at, and has no part in what is told.
func TestWhatIsNotNeeded(t *testing.T) {
	g := api.Graph{Objects: objs(obj(num(5))), Roots: vals(ref(0), num(3))}
	for _, wild := range []int{-1 << 63, -1, 0, 1, 5, api.MaxRoots, 1 << 32, 1<<63 - 1} {
		n := int64(wild)
		runPlays(t, g, []playCase{
			{"DNew", script(api.Do{Kind: api.DNew, To: 1, From: wild, At: wild, N: 2}), fine(1), ends(vals(ref(0), ref(1)), obj(num(5)), obj(num(0), num(0)))},
			{"DInt", script(api.Do{Kind: api.DInt, To: 1, From: wild, At: wild, N: 2}), fine(1), ends(vals(ref(0), num(2)), obj(num(5)))},
			{"DMove", script(api.Do{Kind: api.DMove, To: 2, From: 1, At: wild, N: n}), fine(1), ends(vals(ref(0), num(3), num(3)), obj(num(5)))},
			{"DPut", script(api.Do{Kind: api.DPut, To: 0, From: 1, At: 0, N: n}), fine(1), ends(vals(ref(0), num(3)), obj(num(3)))},
			{"DGet", script(api.Do{Kind: api.DGet, To: 2, From: 0, At: 0, N: n}), fine(1), ends(vals(ref(0), num(3), num(5)), obj(num(5)))},
			{"DSame", script(api.Do{Kind: api.DSame, To: 0, From: 0, At: wild, N: n}), outs(told(1)), ends(vals(ref(0), num(3)), obj(num(5)))},
			{"DSame, of others", script(api.Do{Kind: api.DSame, To: 0, From: 1, At: wild, N: n}), fine(1), ends(vals(ref(0), num(3)), obj(num(5)))},
			{"DTell", script(api.Do{Kind: api.DTell, To: wild, From: 1, At: wild, N: n}), outs(told(3)), ends(vals(ref(0), num(3)), obj(num(5)))},
			{"DTell, of a reference", script(api.Do{Kind: api.DTell, To: wild, From: 0, At: wild, N: n}), outs(has(1)), ends(vals(ref(0), num(3)), obj(num(5)))},
		})
	}
}
