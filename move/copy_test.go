package move_test

import (
	"slices"
	"testing"

	"ragpicker/api"
	"ragpicker/move"
)

// holdCopy holds what Copy tells of a against want.
func holdCopy(t *testing.T, name string, a, want api.Arena) {
	t.Helper()
	if b, e := move.Copy(a); e != api.OK || !equalArenas(b, want) {
		t.Fatalf("%s: Copy of %x: %x %d, want %x", name, a, b, e, want)
	}
}

type copyCase struct {
	name                 string
	words, roots         []uint64
	wantWords, wantRoots []uint64
}

func runCopies(t *testing.T, cases []copyCase) {
	t.Helper()
	for _, c := range cases {
		holdCopy(t, c.name, api.Arena{Words: c.words, Roots: c.roots}, api.Arena{Words: c.wantWords, Roots: c.wantRoots})
	}
}

func TestExample(t *testing.T) {
	runCopies(t, []copyCase{
		{"without fields", row(head(0), head(0)), row(at(1)), row(aged(0, 1)), row(at(0))},
		{"behind one with fields", row(head(1), of(5), head(0)), row(at(2)), row(aged(0, 1)), row(at(0))},
		{"with numbers", row(head(1), at(2), head(2), of(5), of(6)), row(at(2)), row(aged(2, 1), of(5), of(6)), row(at(0))},
	})
}

// By their ages, or by numbers in their fields, objects are told from each other in what follows.

func TestWhatGoes(t *testing.T) {
	runCopies(t, []copyCase{
		{"no word at all", nil, nil, nil, nil},
		{"no word, empty lists", row(), row(), nil, nil},
		{"no word, but numbers as roots", nil, row(of(0), of(-1)), nil, row(of(0), of(-1))},
		{"no root", row(head(0), head(1), at(0)), nil, nil, nil},
		{"no root, all marked", row(set(head(0)), set(head(1)), at(0)), nil, nil, nil},
		{"roots that are numbers alone", row(head(0), set(head(0))), row(of(0), of(1)), nil, row(of(0), of(1))},
		{"both neighbours", row(aged(0, 1), aged(0, 2), aged(0, 3)), row(at(1)), row(aged(0, 3)), row(at(0))},
		{"the first one", row(aged(0, 1), aged(0, 2)), row(at(1)), row(aged(0, 3)), row(at(0))},
		{"the last one", row(aged(0, 1), aged(0, 2)), row(at(0)), row(aged(0, 2)), row(at(0))},
		{"one between", row(aged(1, 1), at(5), aged(2, 2), at(0), of(1), aged(0, 3)), row(at(0)), row(aged(1, 2), at(2), aged(0, 4)), row(at(0))},
		{"who refers to what stays", row(head(1), at(2), aged(0, 4)), row(at(2)), row(aged(0, 5)), row(at(0))},
		{"to itself", row(head(1), at(0), aged(0, 4)), row(at(2)), row(aged(0, 5)), row(at(0))},
		{"to each other", row(head(1), at(2), head(1), at(0), aged(0, 4)), row(at(4)), row(aged(0, 5)), row(at(0))},
		{"to each other, no root", row(head(1), at(2), head(1), at(0)), nil, nil, nil},
		{"marked, and it keeps nobody", row(set(head(1)), at(2), set(head(0)), aged(0, 4)), row(at(3)), row(aged(0, 5)), row(at(0))},
		{"none", row(aged(1, 0), at(2), aged(1, 1), at(4), aged(0, 2)), row(at(0)), row(aged(1, 1), at(2), aged(1, 2), at(4), aged(0, 3)), row(at(0))},
	})
}

func TestOrderOfRoots(t *testing.T) {
	three := row(aged(0, 0), aged(1, 1), of(7), aged(0, 2))
	runCopies(t, []copyCase{
		{"as they stand", three, row(at(0), at(1), at(3)), row(aged(0, 1), aged(1, 2), of(7), aged(0, 3)), row(at(0), at(1), at(3))},
		{"the other way round", three, row(at(3), at(1), at(0)), row(aged(0, 3), aged(1, 2), of(7), aged(0, 1)), row(at(0), at(1), at(3))},
		{"the midst first", three, row(at(1), at(3), at(0)), row(aged(1, 2), of(7), aged(0, 3), aged(0, 1)), row(at(0), at(2), at(3))},
		{"numbers between", three, row(of(0), at(3), of(3), at(0), of(1)), row(aged(0, 3), aged(0, 1)), row(of(0), at(0), of(3), at(1), of(1))},
		{"the same object twice", three, row(at(3), at(3)), row(aged(0, 3)), row(at(0), at(0))},
		{"the same object twice, another between", three, row(at(3), at(1), at(3), at(1)), row(aged(0, 3), aged(1, 2), of(7)), row(at(0), at(1), at(0), at(1))},
		{"all roots to one object", three, slices.Repeat(row(at(1)), api.MaxRoots), row(aged(1, 2), of(7)), slices.Repeat(row(at(0)), api.MaxRoots)},
	})
}

func TestOrderOfFields(t *testing.T) {
	runCopies(t, []copyCase{
		{"by fields, not by places", row(aged(0, 1), aged(0, 2), aged(3, 3), at(1), of(0), at(0)), row(at(2)),
			row(aged(3, 4), at(4), of(0), at(5), aged(0, 3), aged(0, 2)), row(at(0))},
		{"all of four fields", row(aged(4, 0), at(8), at(6), at(7), at(5), aged(0, 1), aged(0, 2), aged(0, 3), aged(0, 4)), row(at(0)),
			row(aged(4, 1), at(5), at(6), at(7), at(8), aged(0, 5), aged(0, 3), aged(0, 4), aged(0, 2)), row(at(0))},
		{"the last of four fields", row(aged(0, 1), aged(4, 2), of(0), of(0), of(0), at(0)), row(at(1)),
			row(aged(4, 3), of(0), of(0), of(0), at(5), aged(0, 2)), row(at(0))},
		{"both fields ahead of all that the first one leads to", row(aged(0, 3), aged(0, 2), aged(1, 1), at(0), aged(2, 0), at(2), at(1)), row(at(4)),
			row(aged(2, 1), at(3), at(5), aged(1, 2), at(6), aged(0, 3), aged(0, 4)), row(at(0))},
		{"all roots ahead of what the first one leads to", row(aged(0, 2), aged(1, 0), at(0), aged(0, 1)), row(at(1), at(3)),
			row(aged(1, 1), at(3), aged(0, 2), aged(0, 3)), row(at(0), at(2))},
		{"fields of the first root ahead of those of the second one", row(aged(0, 5), aged(0, 6), aged(1, 0), at(0), aged(1, 1), at(1)), row(at(4), at(2)),
			row(aged(1, 2), at(4), aged(1, 1), at(5), aged(0, 7), aged(0, 6)), row(at(0), at(2))},
		{"who was found first has its turn first", row(aged(2, 0), at(5), at(3), aged(1, 1), at(7), aged(1, 2), at(8), aged(0, 3), aged(0, 4)), row(at(0)),
			row(aged(2, 1), at(3), at(5), aged(1, 3), at(7), aged(1, 2), at(8), aged(0, 5), aged(0, 4)), row(at(0))},
		{"a field's object that is a later root", row(aged(1, 0), at(3), aged(0, 1), aged(0, 2)), row(at(0), at(2), at(3)),
			row(aged(1, 1), at(3), aged(0, 2), aged(0, 3)), row(at(0), at(2), at(3))},
	})
}

func TestFoundBySeveral(t *testing.T) {
	runCopies(t, []copyCase{
		{"the same object by two fields", row(aged(0, 1), aged(2, 2), at(0), at(0)), row(at(1)),
			row(aged(2, 3), at(3), at(3), aged(0, 2)), row(at(0))},
		{"by two fields, another between", row(aged(3, 0), at(5), at(4), at(5), aged(0, 1), aged(0, 2)), row(at(0)),
			row(aged(3, 1), at(4), at(5), at(4), aged(0, 3), aged(0, 2)), row(at(0))},
		{"by a root and by a field", row(aged(0, 1), aged(1, 2), at(0)), row(at(1), at(0)),
			row(aged(1, 3), at(2), aged(0, 2)), row(at(0), at(2))},
		{"by a root and by an earlier one's field", row(aged(0, 1), aged(1, 2), at(0)), row(at(0), at(1)),
			row(aged(0, 2), aged(1, 3), at(0)), row(at(0), at(1))},
		{"by two ways", row(aged(0, 3), aged(1, 2), at(0), aged(1, 1), at(0), aged(2, 0), at(3), at(1)), row(at(5)),
			row(aged(2, 1), at(3), at(5), aged(1, 2), at(7), aged(1, 3), at(7), aged(0, 4)), row(at(0))},
		{"by ways of two lengths", row(aged(0, 3), aged(1, 1), at(0), aged(2, 0), at(1), at(0)), row(at(3)),
			row(aged(2, 1), at(3), at(5), aged(1, 2), at(5), aged(0, 4)), row(at(0))},
		{"to itself", row(aged(0, 1), aged(1, 2), at(1)), row(at(1)),
			row(aged(1, 3), at(0)), row(at(0))},
		{"to itself by all fields", row(aged(0, 1), aged(4, 2), at(1), at(1), at(1), at(1)), row(at(1), at(1)),
			row(aged(4, 3), at(0), at(0), at(0), at(0)), row(at(0), at(0))},
		{"to itself, then on", row(aged(0, 1), aged(2, 2), at(1), at(0)), row(at(1)),
			row(aged(2, 3), at(0), at(3), aged(0, 2)), row(at(0))},
		{"to each other", row(aged(1, 0), at(2), aged(1, 1), at(0)), row(at(2)),
			row(aged(1, 2), at(2), aged(1, 1), at(0)), row(at(0))},
		{"three in a circle, and one beside it", row(aged(1, 0), at(6), head(0), aged(2, 1), of(9), at(0), aged(1, 2), at(3)), row(at(6), at(0)),
			row(aged(1, 3), at(4), aged(1, 1), at(0), aged(2, 2), of(9), at(2)), row(at(0), at(2))},
		{"two circles through one", row(aged(1, 0), at(4), aged(1, 1), at(4), aged(2, 2), at(2), at(0)), row(at(4)),
			row(aged(2, 3), at(3), at(5), aged(1, 2), at(0), aged(1, 1), at(0)), row(at(0))},
	})
}

func TestNumbersStay(t *testing.T) {
	runCopies(t, []copyCase{
		{"as large as places", row(head(0), head(4), of(0), of(1), of(2), of(3)), row(at(1), of(0), of(1), of(2)),
			row(aged(4, 1), of(0), of(1), of(2), of(3)), row(at(0), of(0), of(1), of(2))},
		{"whose words are as large as places", row(head(0), head(0), head(0), head(0), head(2), 1, 3), row(at(4), 1, 3),
			row(aged(2, 1), 1, 3), row(at(0), 1, 3)},
		{"among references", row(head(0), head(4), of(0), at(0), of(1), at(1)), row(of(1), at(1), of(0)),
			row(aged(4, 1), of(0), at(5), of(1), at(0), aged(0, 1)), row(of(1), at(0), of(0))},
		{"that would be headers", row(head(0), head(2), head(1), aged(3, 6)), row(at(1), head(1), aged(3, 7)),
			row(aged(2, 1), head(1), aged(3, 6)), row(at(0), head(1), aged(3, 7))},
		{"that would be marked headers", row(head(0), head(2), set(head(1)), set(aged(3, 6))), row(set(head(1)), at(1), set(aged(3, 7))),
			row(aged(2, 1), set(head(1)), set(aged(3, 6))), row(set(head(1)), at(0), set(aged(3, 7)))},
		{"that have the bits of marks and ages alone", row(head(0), head(2), markBit|1, 7<<9|1), row(at(1), markBit|1, 1<<9|1),
			row(aged(2, 1), markBit|1, 7<<9|1), row(at(0), markBit|1, 1<<9|1)},
		{"below zero", row(head(0), head(2), of(-1), of(-256)), row(of(-2), at(1)),
			row(aged(2, 1), of(-1), of(-256)), row(of(-2), at(0))},
		{"MaxWords and beyond", row(head(0), head(2), of(api.MaxWords-1), of(api.MaxWords)), row(of(api.MaxWords), at(1)),
			row(aged(2, 1), of(api.MaxWords-1), of(api.MaxWords)), row(of(api.MaxWords), at(0))},
		{"the least and the greatest", row(head(0), head(2), of(api.MinInt), of(api.MaxInt)), row(of(api.MaxInt), of(api.MinInt), at(1)),
			row(aged(2, 1), of(api.MinInt), of(api.MaxInt)), row(of(api.MaxInt), of(api.MinInt), at(0))},
	})
}

func TestMarksAndAges(t *testing.T) {
	for age, want := range []int{1, 2, 3, 4, 5, 6, 7, 7} {
		for fields := range api.MaxFields + 1 {
			list := slices.Repeat(row(of(4)), fields)
			made := append(row(aged(fields, want)), list...)
			for _, h := range row(aged(fields, age), set(aged(fields, age))) {
				alone := append(row(h), list...)
				runCopies(t, []copyCase{
					{"alone", alone, row(at(0)), made, row(at(0))},
					{"behind a marked one that goes", append(row(set(aged(0, 7))), alone...), row(at(1)), made, row(at(0))},
					{"come to by a field", append(row(set(aged(1, 3)), at(2)), alone...), row(at(0)), append(row(aged(1, 4), at(2)), made...), row(at(0))},
					{"come to by two", append(row(aged(2, 0), at(3), at(3)), alone...), row(at(0), at(3)), append(row(aged(2, 1), at(3), at(3)), made...), row(at(0), at(3))},
				})
			}
		}
	}
}

func TestCopyOfLimits(t *testing.T) {
	ones := slices.Repeat(row(aged(0, 1)), api.MaxRoots)
	holdCopy(t, "MaxWords objects, MaxRoots come to", crowd(), api.Arena{Words: ones, Roots: row(at(0), at(1), at(2), at(3), at(4), at(5), at(6), at(7))})
	nobody := crowd()
	nobody.Roots = nil
	holdCopy(t, "MaxWords objects, none come to", nobody, api.Arena{})
	numbers := crowd()
	numbers.Roots = slices.Repeat(row(of(3)), api.MaxRoots)
	holdCopy(t, "MaxWords objects, MaxRoots numbers", numbers, api.Arena{Roots: numbers.Roots})
	same := crowd()
	same.Roots = slices.Repeat(row(at(api.MaxWords-1)), api.MaxRoots)
	holdCopy(t, "MaxRoots roots to the last object", same, api.Arena{Words: row(aged(0, 1)), Roots: slices.Repeat(row(at(0)), api.MaxRoots)})
}

func TestLongWays(t *testing.T) {
	const objects = api.MaxWords / 2
	for _, step := range []int{1, -1, 2, 3, 32, 63, 64, 65} {
		want := api.Arena{Roots: row(at(0))}
		for o := 0; o != 0 || len(want.Words) == 0; o = (o + step + objects) % objects {
			want.Words = append(want.Words, aged(1, min(o%8+1, 7)), at(len(want.Words)+2))
		}
		want.Words[len(want.Words)-1] = at(0)
		holdCopy(t, "a long way", chain(step), want)
	}
}

func TestManyFields(t *testing.T) {
	want := api.Arena{Roots: row(at(0))}
	for o := range fours {
		want.Words = append(want.Words, aged(4, min(o%8+1, 7)))
		for f := 4*o + 1; f < 4*o+5; f++ {
			if f < fours {
				want.Words = append(want.Words, at(5*f))
			} else {
				want.Words = append(want.Words, of(int64(f)))
			}
		}
	}
	holdCopy(t, "tree", tree(), want)
	holdCopy(t, "dense", dense(), slowCopy(dense(), slowOrder(dense())))
}
