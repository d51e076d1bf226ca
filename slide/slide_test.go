package slide_test

import (
	"slices"
	"testing"

	"ragpicker/api"
	"ragpicker/slide"
)

// holdSlide holds what Slide tells of a against want.
func holdSlide(t *testing.T, name string, a, want api.Arena) {
	t.Helper()
	if b, e := slide.Slide(a); e != api.OK || !equalArenas(b, want) {
		t.Fatalf("%s: Slide of %x: %x %d, want %x", name, a, b, e, want)
	}
}

type slideCase struct {
	name                 string
	words, roots         []uint64
	wantWords, wantRoots []uint64
}

func runSlides(t *testing.T, cases []slideCase) {
	t.Helper()
	for _, c := range cases {
		holdSlide(t, c.name, api.Arena{Words: c.words, Roots: c.roots}, api.Arena{Words: c.wantWords, Roots: c.wantRoots})
	}
}

func TestExample(t *testing.T) {
	runSlides(t, []slideCase{
		{"without fields", row(head(0), head(0), head(0)), row(at(2)), row(head(0)), row(at(0))},
		{"the second one", row(head(0), head(0), head(0)), row(at(1)), row(head(0)), row(at(0))},
		{"the first one", row(head(0), head(0), head(0)), row(at(0)), row(head(0)), row(at(0))},
		{"told from each other by age", row(aged(0, 1), aged(0, 2), aged(0, 3)), row(at(2)), row(aged(0, 3)), row(at(0))},
	})
}

// By their ages, or by numbers in their fields, objects are told from each other in what follows.

func TestWhatGoes(t *testing.T) {
	three := row(aged(1, 1), of(5), aged(2, 2), of(6), of(7), aged(0, 3))
	runSlides(t, []slideCase{
		{"no word at all", nil, nil, nil, nil},
		{"no word, empty lists", row(), row(), nil, nil},
		{"no word, but numbers as roots", nil, row(of(0), of(-1)), nil, row(of(0), of(-1))},
		{"no root", row(head(0), head(1), at(0)), nil, nil, nil},
		{"no root, all marked", row(set(head(0)), set(head(1)), at(0)), nil, nil, nil},
		{"roots that are numbers alone", row(head(0), set(head(0))), row(of(0), of(1)), nil, row(of(0), of(1))},
		{"none", three, row(at(0), at(2), at(5)), three, row(at(0), at(2), at(5))},
		{"the first one", three, row(at(2), at(5)), row(aged(2, 2), of(6), of(7), aged(0, 3)), row(at(0), at(3))},
		{"the one between", three, row(at(0), at(5)), row(aged(1, 1), of(5), aged(0, 3)), row(at(0), at(2))},
		{"the last one", three, row(at(0), at(2)), row(aged(1, 1), of(5), aged(2, 2), of(6), of(7)), row(at(0), at(2))},
		{"the first two", three, row(at(5)), row(aged(0, 3)), row(at(0))},
		{"the last two", three, row(at(0)), row(aged(1, 1), of(5)), row(at(0))},
		{"both neighbours", three, row(at(2)), row(aged(2, 2), of(6), of(7)), row(at(0))},
		{"several side by side", row(aged(0, 1), head(1), of(1), head(0), head(2), of(2), of(3), aged(1, 2), of(9), head(0), head(0), aged(0, 4)), row(at(0), at(7), at(11)),
			row(aged(0, 1), aged(1, 2), of(9), aged(0, 4)), row(at(0), at(1), at(3))},
		{"each second one", row(head(0), aged(0, 1), head(1), of(1), aged(1, 2), of(2), head(0), aged(0, 3), head(0)), row(at(1), at(4), at(7)),
			row(aged(0, 1), aged(1, 2), of(2), aged(0, 3)), row(at(0), at(1), at(3))},
		{"who refers to what stays", row(head(1), at(2), aged(0, 4)), row(at(2)), row(aged(0, 4)), row(at(0))},
		{"to itself", row(head(1), at(0), aged(0, 4)), row(at(2)), row(aged(0, 4)), row(at(0))},
		{"to each other", row(head(1), at(2), head(1), at(0), aged(0, 4)), row(at(4)), row(aged(0, 4)), row(at(0))},
		{"to each other, no root", row(head(1), at(2), head(1), at(0)), nil, nil, nil},
		{"marked, and it keeps nobody", row(set(head(1)), at(2), set(head(0)), aged(0, 4)), row(at(3)), row(aged(0, 4)), row(at(0))},
		{"marked, between such that stay", row(aged(0, 1), set(head(1)), at(3), set(head(0)), aged(0, 4)), row(at(0), at(4)), row(aged(0, 1), aged(0, 4)), row(at(0), at(1))},
	})
}

func TestOrder(t *testing.T) {
	three := row(aged(0, 0), aged(1, 1), of(7), aged(0, 2))
	runSlides(t, []slideCase{
		{"roots as they stand", three, row(at(0), at(1), at(3)), three, row(at(0), at(1), at(3))},
		{"roots the other way round", three, row(at(3), at(1), at(0)), three, row(at(3), at(1), at(0))},
		{"the midst first", three, row(at(1), at(3), at(0)), three, row(at(1), at(3), at(0))},
		{"the last one first, the first one goes", three, row(at(3), at(1)), row(aged(1, 1), of(7), aged(0, 2)), row(at(2), at(0))},
		{"numbers between", three, row(of(0), at(3), of(3), at(0), of(1)), row(aged(0, 0), aged(0, 2)), row(of(0), at(1), of(3), at(0), of(1))},
		{"the same object twice", three, row(at(3), at(3)), row(aged(0, 2)), row(at(0), at(0))},
		{"the same object twice, another between", three, row(at(3), at(1), at(3), at(1)), row(aged(1, 1), of(7), aged(0, 2)), row(at(2), at(0), at(2), at(0))},
		{"all roots to one object", three, slices.Repeat(row(at(1)), api.MaxRoots), row(aged(1, 1), of(7)), slices.Repeat(row(at(0)), api.MaxRoots)},
		{"by places, not by fields", row(aged(0, 5), aged(0, 1), aged(0, 2), aged(3, 3), at(2), of(0), at(1)), row(at(3)),
			row(aged(0, 1), aged(0, 2), aged(3, 3), at(1), of(0), at(0)), row(at(2))},
		{"fields by places, further up", row(head(0), aged(4, 0), at(9), at(7), at(8), at(6), aged(0, 1), aged(0, 2), aged(0, 3), aged(0, 4)), row(at(1)),
			row(aged(4, 0), at(8), at(6), at(7), at(5), aged(0, 1), aged(0, 2), aged(0, 3), aged(0, 4)), row(at(0))},
		{"by places, not by how far from a root", row(aged(0, 3), head(0), aged(1, 2), at(0), aged(1, 1), at(2), aged(1, 0), at(4)), row(at(6)),
			row(aged(0, 3), aged(1, 2), at(0), aged(1, 1), at(1), aged(1, 0), at(3)), row(at(5))},
	})
}

func TestReferencesAreTurned(t *testing.T) {
	runSlides(t, []slideCase{
		{"down, and who is referred to doesn't move", row(aged(0, 1), head(0), aged(1, 2), at(0)), row(at(2)),
			row(aged(0, 1), aged(1, 2), at(0)), row(at(1))},
		{"down, and both move", row(head(0), aged(0, 1), aged(1, 2), at(1)), row(at(2)),
			row(aged(0, 1), aged(1, 2), at(0)), row(at(1))},
		{"up, and who refers doesn't move", row(aged(1, 1), at(4), head(1), of(1), aged(0, 2)), row(at(0)),
			row(aged(1, 1), at(2), aged(0, 2)), row(at(0))},
		{"up, and both move as far", row(head(2), of(1), of(2), aged(1, 1), at(5), aged(0, 2)), row(at(3)),
			row(aged(1, 1), at(2), aged(0, 2)), row(at(0))},
		{"up, and the one further up moves farther", row(head(0), aged(1, 1), at(5), head(1), at(1), aged(0, 2)), row(at(1)),
			row(aged(1, 1), at(2), aged(0, 2)), row(at(0))},
		{"up and down over several that go", row(head(0), aged(2, 1), at(7), at(1), head(0), head(1), at(4), aged(2, 2), at(1), at(11), head(0), aged(1, 3), at(7)), row(at(7), of(7), at(11)),
			row(aged(2, 1), at(3), at(0), aged(2, 2), at(0), at(6), aged(1, 3), at(3)), row(at(3), of(7), at(6))},
		{"to where an object stood that goes", row(head(0), aged(0, 1), head(1), of(5), aged(1, 2), at(1)), row(at(4), at(1)),
			row(aged(0, 1), aged(1, 2), at(0)), row(at(1), at(0))},
		{"all of MaxFields", row(head(0), aged(0, 1), head(0), aged(4, 2), at(8), at(1), at(3), at(9), aged(0, 3), aged(0, 4)), row(at(3)),
			row(aged(0, 1), aged(4, 2), at(6), at(0), at(1), at(7), aged(0, 3), aged(0, 4)), row(at(1))},
		{"roots up and down", row(head(1), of(0), aged(0, 1), head(0), aged(1, 2), of(0), head(0), aged(0, 3)), row(at(7), at(2), at(4)),
			row(aged(0, 1), aged(1, 2), of(0), aged(0, 3)), row(at(3), at(0), at(1))},
	})
}

func TestFoundBySeveral(t *testing.T) {
	runSlides(t, []slideCase{
		{"the same object by two fields", row(head(0), aged(0, 1), aged(2, 2), at(1), at(1)), row(at(2)),
			row(aged(0, 1), aged(2, 2), at(0), at(0)), row(at(1))},
		{"by a root and by a field", row(head(0), aged(0, 1), aged(1, 2), at(1)), row(at(2), at(1)),
			row(aged(0, 1), aged(1, 2), at(0)), row(at(1), at(0))},
		{"by two ways", row(head(0), aged(0, 3), aged(1, 2), at(1), aged(1, 1), at(1), aged(2, 0), at(4), at(2)), row(at(6)),
			row(aged(0, 3), aged(1, 2), at(0), aged(1, 1), at(0), aged(2, 0), at(3), at(1)), row(at(5))},
		{"by ways of two lengths", row(head(0), aged(0, 3), aged(1, 1), at(1), aged(2, 0), at(2), at(1)), row(at(4)),
			row(aged(0, 3), aged(1, 1), at(0), aged(2, 0), at(1), at(0)), row(at(3))},
		{"to itself", row(aged(0, 1), aged(1, 2), at(1)), row(at(1)),
			row(aged(1, 2), at(0)), row(at(0))},
		{"to itself by all fields", row(aged(0, 1), aged(4, 2), at(1), at(1), at(1), at(1)), row(at(1), at(1)),
			row(aged(4, 2), at(0), at(0), at(0), at(0)), row(at(0), at(0))},
		{"to itself, then on", row(aged(0, 1), head(0), aged(2, 2), at(2), at(0)), row(at(2)),
			row(aged(0, 1), aged(2, 2), at(1), at(0)), row(at(1))},
		{"to each other", row(head(0), aged(1, 0), at(3), aged(1, 1), at(1)), row(at(3)),
			row(aged(1, 0), at(2), aged(1, 1), at(0)), row(at(2))},
		{"to each other, one that goes between", row(aged(1, 0), at(3), head(0), aged(1, 1), at(0)), row(at(3)),
			row(aged(1, 0), at(2), aged(1, 1), at(0)), row(at(2))},
		{"three in a circle, and one beside it", row(aged(1, 0), at(6), head(0), aged(2, 1), of(9), at(0), aged(1, 2), at(3)), row(at(6), at(0)),
			row(aged(1, 0), at(5), aged(2, 1), of(9), at(0), aged(1, 2), at(2)), row(at(5), at(0))},
		{"two circles through one", row(head(0), aged(1, 0), at(5), aged(1, 1), at(5), aged(2, 2), at(3), at(1)), row(at(5)),
			row(aged(1, 0), at(4), aged(1, 1), at(4), aged(2, 2), at(2), at(0)), row(at(4))},
	})
}

func TestNumbersStay(t *testing.T) {
	runSlides(t, []slideCase{
		{"as large as places", row(head(0), head(4), of(0), of(1), of(2), of(3)), row(at(1), of(0), of(1), of(2)),
			row(head(4), of(0), of(1), of(2), of(3)), row(at(0), of(0), of(1), of(2))},
		{"whose words are as large as places", row(head(0), head(0), head(0), head(0), head(2), 1, 3), row(at(4), 1, 3),
			row(head(2), 1, 3), row(at(0), 1, 3)},
		{"among references", row(head(0), aged(0, 1), head(4), of(1), at(1), of(2), at(2)), row(of(2), at(2), of(1)),
			row(aged(0, 1), head(4), of(1), at(0), of(2), at(1)), row(of(2), at(1), of(1))},
		{"that would be headers", row(head(0), head(2), head(1), aged(3, 6)), row(at(1), head(1), aged(3, 7)),
			row(head(2), head(1), aged(3, 6)), row(at(0), head(1), aged(3, 7))},
		{"that would be marked headers", row(head(0), head(2), set(head(1)), set(aged(3, 6))), row(set(head(1)), at(1), set(aged(3, 7))),
			row(head(2), set(head(1)), set(aged(3, 6))), row(set(head(1)), at(0), set(aged(3, 7)))},
		{"that have the bits of marks and ages alone", row(head(0), head(2), markBit|1, 7<<9|1), row(at(1), markBit|1, 1<<9|1),
			row(head(2), markBit|1, 7<<9|1), row(at(0), markBit|1, 1<<9|1)},
		{"below zero", row(head(0), head(2), of(-1), of(-256)), row(of(-2), at(1)),
			row(head(2), of(-1), of(-256)), row(of(-2), at(0))},
		{"MaxWords and beyond", row(head(0), head(2), of(api.MaxWords-1), of(api.MaxWords)), row(of(api.MaxWords), at(1)),
			row(head(2), of(api.MaxWords-1), of(api.MaxWords)), row(of(api.MaxWords), at(0))},
		{"the least and the greatest", row(head(0), head(2), of(api.MinInt), of(api.MaxInt)), row(of(api.MaxInt), of(api.MinInt), at(1)),
			row(head(2), of(api.MinInt), of(api.MaxInt)), row(of(api.MaxInt), of(api.MinInt), at(0))},
		{"of objects that don't move", row(head(2), of(0), of(3), head(0)), row(at(0), of(3)),
			row(head(2), of(0), of(3)), row(at(0), of(3))},
	})
}

func TestMarksAndAges(t *testing.T) {
	for age := range api.MaxAge + 1 {
		for fields := range api.MaxFields + 1 {
			list := slices.Repeat(row(of(4)), fields)
			made := append(row(aged(fields, age)), list...)
			for _, h := range row(aged(fields, age), set(aged(fields, age))) {
				alone := append(row(h), list...)
				runSlides(t, []slideCase{
					{"alone", alone, row(at(0)), made, row(at(0))},
					{"behind a marked one that goes", append(row(set(aged(0, 7))), alone...), row(at(1)), made, row(at(0))},
					{"come to by a field", append(row(set(aged(1, 3)), at(2)), alone...), row(at(0)), append(row(aged(1, 3), at(2)), made...), row(at(0))},
					{"come to by two, behind one that goes", append(row(head(0), aged(2, 0), at(4), at(4)), alone...), row(at(1), at(4)), append(row(aged(2, 0), at(3), at(3)), made...), row(at(0), at(3))},
				})
			}
		}
	}
}

func TestLimits(t *testing.T) {
	of8 := func(place func(r int) uint64) (list []uint64) {
		for r := range api.MaxRoots {
			list = append(list, place(r))
		}
		return list
	}
	holdSlide(t, "MaxWords objects, the last MaxRoots come to", crowd(), api.Arena{
		Words: slices.Repeat(row(head(0)), api.MaxRoots),
		Roots: of8(func(r int) uint64 { return at(api.MaxRoots - 1 - r) }),
	})
	nobody := crowd()
	nobody.Roots = nil
	holdSlide(t, "MaxWords objects, none come to", nobody, api.Arena{})
	numbers := crowd()
	numbers.Roots = slices.Repeat(row(of(3)), api.MaxRoots)
	holdSlide(t, "MaxWords objects, MaxRoots numbers", numbers, api.Arena{Roots: numbers.Roots})
	same := crowd()
	same.Roots = slices.Repeat(row(at(api.MaxWords-1)), api.MaxRoots)
	holdSlide(t, "MaxRoots roots to the last object", same, api.Arena{Words: row(head(0)), Roots: slices.Repeat(row(at(0)), api.MaxRoots)})
	spread := crowd()
	spread.Roots = of8(func(r int) uint64 { return at(32*r + 31) })
	holdSlide(t, "MaxRoots objects far from each other", spread, api.Arena{
		Words: slices.Repeat(row(head(0)), api.MaxRoots),
		Roots: of8(at),
	})
}

// Of a long way all objects stay, or each second one.
func TestLongWays(t *testing.T) {
	const objects = api.MaxWords / 2
	for _, step := range []int{1, -1, 3, 63, 65} {
		holdSlide(t, "a long way", chain(step), chain(step))
	}
	for _, step := range []int{2, -2, 6, 62} {
		want := api.Arena{Roots: row(at(0))}
		for o := 0; o < objects; o += 2 {
			want.Words = append(want.Words, aged(1, o%8), at((o+step+objects)%objects))
		}
		holdSlide(t, "a way by each second one", chain(step), want)
	}
}

func TestManyFields(t *testing.T) {
	// All but the one that stands first stay in the tree: each word is of an object one place further down.
	want := api.Arena{Roots: row(tree().Roots[0] - at(1))}
	for _, w := range tree().Words[1:] {
		if w%2 == 0 && w < at(api.MaxWords) {
			w -= at(1)
		}
		want.Words = append(want.Words, w)
	}
	holdSlide(t, "tree", tree(), want)
	want = dense()
	want.Words = want.Words[:5*fours]
	for o := range fours {
		want.Words[5*o] &^= markBit
	}
	holdSlide(t, "dense", dense(), want)
}
