package visit_test

import (
	"slices"
	"testing"

	"ragpicker/api"
	"ragpicker/arena"
	"ragpicker/mark"
	"ragpicker/visit"
)

// holdVisit holds what Visit tells of a against this order, and the marks against it as well.
func holdVisit(t *testing.T, name string, a api.Arena, order []int) {
	t.Helper()
	m, l, e := visit.Visit(a)
	if e != api.OK || !slices.Equal(l, order) {
		t.Fatalf("%s: Visit of %x: %v %d, want %v", name, a, l, e, order)
	}
	if want := markJust(a, order); !equalArenas(m, want) {
		t.Fatalf("%s: Visit of %x: %x, want %x", name, a, m, want)
	}
}

func TestExample(t *testing.T) {
	// The objects 0 to 3 of the chapter stand at 0, 3, 5 and 6.
	a := api.Arena{Words: row(head(2), at(3), at(5), head(1), at(6), head(0), head(0)), Roots: row(at(0))}
	m, l, e := visit.Visit(a)
	if e != api.OK || !slices.Equal(l, places(0, 3, 6, 5)) {
		t.Errorf("order: %v %d", l, e)
	}
	want := row(set(head(2)), at(3), at(5), set(head(1)), at(6), set(head(0)), set(head(0)))
	if !slices.Equal(m.Words, want) || !slices.Equal(m.Roots, row(at(0))) {
		t.Errorf("arena: %x", m)
	}
}

func TestVisit(t *testing.T) {
	cases := []struct {
		name  string
		words []uint64
		roots []uint64
		want  []int
	}{
		{"no word at all", nil, nil, nil},
		{"no word, but numbers as roots", nil, row(of(0), of(-1)), nil},
		{"no root", row(head(0), head(1), at(0)), nil, nil},
		{"no root, all marked", row(set(head(0)), set(head(1)), at(0)), nil, nil},
		{"a root that is a number", row(set(head(0)), head(0)), row(of(0)), nil},
		{"a root, not its neighbours", row(head(0), head(0), head(0)), row(at(1)), places(1)},
		{"roots in their order, not by places", row(head(0), head(0), head(0)), row(at(2), of(1), at(0), at(1)), places(2, 0, 1)},
		{"the same object by two roots", row(head(0), head(0)), row(at(1), at(0), at(1)), places(1, 0)},
		{"all of a root ahead of the next one", row(head(1), at(3), head(0), head(0)), row(at(0), at(2)), places(0, 3, 2)},
		{"a root that was come to by another", row(head(1), at(2), head(1), at(4), head(0)), row(at(0), at(4), at(2)), places(0, 2, 4)},
		{"a root that comes to another behind it", row(head(1), at(2), head(0)), row(at(2), at(0)), places(2, 0)},
		{"fields in their order, not by places", row(head(0), head(0), head(3), at(1), of(0), at(0)), row(at(2)), places(2, 1, 0)},
		{"all of a field ahead of the next one", row(head(2), at(3), at(5), head(1), at(7), head(1), at(8), head(0), head(0)), row(at(0)), places(0, 3, 7, 5, 8)},
		{"the same object by two fields", row(head(2), at(3), at(3), head(0)), row(at(0)), places(0, 3)},
		{"the same object by two fields, another between", row(head(3), at(4), at(5), at(4), head(0), head(0)), row(at(0)), places(0, 4, 5)},
		{"a later field's object, come to by the first one", row(head(2), at(3), at(5), head(1), at(5), head(0)), row(at(0)), places(0, 3, 5)},
		{"two ways to one", row(head(2), at(3), at(5), head(1), at(7), head(1), at(7), head(0)), row(at(0)), places(0, 3, 7, 5)},
		{"numbers among references", row(head(4), of(5), at(5), of(6), at(6), head(0), head(2), of(-1), at(9), head(0)), row(of(0), at(0), of(5)), places(0, 5, 6, 9)},
		{"the last of four fields", row(head(0), head(4), of(0), of(0), of(0), at(0)), row(at(1)), places(1, 0)},
		{"all of four fields", row(head(4), at(8), at(6), at(7), at(5), head(0), head(0), head(0), head(0)), row(at(0)), places(0, 8, 6, 7, 5)},
		{"fields that are numbers alone", row(head(0), head(4), of(0), of(1), of(2), of(3)), row(at(1)), places(1)},
		{"to itself", row(head(1), at(0)), row(at(0)), places(0)},
		{"to itself by all fields", row(head(0), head(4), at(1), at(1), at(1), at(1)), row(at(1), at(0)), places(1, 0)},
		{"to itself, then on", row(head(2), at(0), at(3), head(2), at(3), at(6), head(0)), row(at(0)), places(0, 3, 6)},
		{"to itself, and not come to", row(set(head(1)), at(0), head(0)), row(at(2)), places(2)},
		{"to each other", row(head(1), at(2), head(1), at(0)), row(at(2)), places(2, 0)},
		{"to each other, and not come to", row(set(head(1)), at(2), head(1), at(0), head(0)), row(at(4)), places(4)},
		{"back to the root from below, then on", row(head(2), at(3), at(6), head(2), at(0), at(7), head(0), head(0)), row(at(0)), places(0, 3, 7, 6)},
		{"a reference is a way there, not back", row(head(1), at(2), head(0)), row(at(2)), places(2)},
		{"a mark that is set keeps nobody", row(set(head(1)), at(2), set(head(0))), nil, nil},
		{"a mark that is set stops nobody", row(set(head(1)), at(2), set(head(1)), at(4), set(head(0))), row(at(0)), places(0, 2, 4)},
		{"ages stay", row(aged(1, 7), at(2), set(aged(0, 5)), set(aged(0, 3)), aged(0, 1)), row(at(0)), places(0, 2)},
		{"fields that would be headers stay", row(head(2), head(1), set(head(3)), set(head(1)), set(head(1))), row(at(0), head(1)), places(0)},
		{"the least and the greatest number stay", row(head(2), of(api.MinInt), of(api.MaxInt)), row(of(api.MinInt), at(0)), places(0)},
	}
	for _, c := range cases {
		holdVisit(t, c.name, api.Arena{Words: c.words, Roots: c.roots}, c.want)
	}
}

func TestVisitOfLimits(t *testing.T) {
	var last []int
	for r := range api.MaxRoots {
		last = append(last, api.MaxWords-1-r)
	}
	holdVisit(t, "MaxWords objects, MaxRoots come to", crowd(), last)
	nobody := crowd()
	nobody.Roots = nil
	holdVisit(t, "MaxWords objects, none come to", nobody, nil)
	same := crowd()
	same.Roots = slices.Repeat(row(at(7)), api.MaxRoots)
	holdVisit(t, "MaxRoots roots to one object", same, places(7))
	for _, step := range []int{1, -1, 2, 3, 63, 65} {
		var way []int
		for place := 0; !slices.Contains(way, place); place = (place + 2*step + api.MaxWords) % api.MaxWords {
			way = append(way, place)
		}
		holdVisit(t, "a long way", chain(step), way)
	}
}

func TestVisitOfManyFields(t *testing.T) {
	var deep []int
	var by func(o int)
	by = func(o int) {
		if o < fours {
			deep = append(deep, 5*o)
			for f := range 4 {
				by(4*o + 1 + f)
			}
		}
	}
	by(0)
	holdVisit(t, "tree", tree(), deep)
	var round []int
	for i := range fours {
		round = append(round, 5*((fours/2+i)%fours))
	}
	holdVisit(t, "dense", dense(), round)
}

// comb has a long way by the last fields, with an object on the side by each first field; all is come to from the far end of the row.
func comb() (api.Arena, []int) {
	const teeth = api.MaxWords / 4
	var a api.Arena
	var order []int
	for o := range teeth {
		a.Words = append(a.Words, head(0), head(2), at(4*o))
		if o == 0 {
			a.Words = append(a.Words, of(0))
		} else {
			a.Words = append(a.Words, at(4*o-3))
		}
		order = append(order, 4*(teeth-1-o)+1, 4*(teeth-1-o))
	}
	a.Roots = row(at(api.MaxWords - 3))
	return a, order
}

func TestVisitOfSides(t *testing.T) {
	a, order := comb()
	holdVisit(t, "sides first", a, order)
	// With the fields the other way round, the sides come on the way back.
	var sides []int
	for place := 1; place < api.MaxWords; place += 4 {
		a.Words[place+1], a.Words[place+2] = a.Words[place+2], a.Words[place+1]
		sides = append(sides, place-1)
	}
	var way []int
	for place := api.MaxWords - 3; place > 0; place -= 4 {
		way = append(way, place)
	}
	holdVisit(t, "sides last", a, slices.Concat(way, sides))
}

func TestAllSmallArenas(t *testing.T) {
	seen := map[api.Errno]int{}
	for a := range smallArenas(5) {
		want := arena.Check(a)
		seen[want]++
		if want == api.OK {
			holdVisit(t, "small", a, slowOrder(a))
			continue
		}
		if m, l, e := visit.Visit(a); e != want || !isZeroArena(m) || len(l) != 0 {
			t.Fatalf("Visit of %x: %x %v %d, want %d alone", a, m, l, e, want)
		}
	}
	if len(seen) != 3 || seen[api.OK] < 1000 || seen[api.ErrForm] < 1000 || seen[api.ErrArg] < 1000 {
		t.Errorf("too few of a kind: %v", seen)
	}
}

func TestManyArenas(t *testing.T) {
	d := dice(1)
	large, part := 0, 0
	for range 5000 {
		a, starts := d.arena(api.MaxWords)
		order := slowOrder(a)
		holdVisit(t, "thrown", a, order)
		if len(starts) > api.MaxObjects {
			large++
		}
		if n := len(order); n > len(starts)/4 && n < len(starts)*3/4 {
			part++
		}
	}
	if large < 1000 || part < 200 {
		t.Errorf("of 5000 arenas %d have more than MaxObjects objects, and of %d a good part is come to", large, part)
	}
}

func TestMarksAreThoseOfMark(t *testing.T) {
	d := dice(2)
	for range 1000 {
		a, _ := d.arena(api.MaxWords)
		want, e := mark.Mark(a, api.MaxRoom)
		if e != api.OK {
			t.Fatalf("Mark of %x: %d", a, e)
		}
		m, l, e := visit.Visit(a)
		if e != api.OK || !equalArenas(m, want) {
			t.Fatalf("Visit of %x: %x %d, Mark tells %x", a, m, e, want)
		}
		// Who is marked already is come to all the same.
		holdVisit(t, "once more", m, l)
	}
}
