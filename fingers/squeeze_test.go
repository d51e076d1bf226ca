package fingers_test

import (
	"slices"
	"testing"

	"ragpicker/api"
	"ragpicker/fingers"
)

// holdSqueeze holds what Squeeze tells of a against want, and how many went.
func holdSqueeze(t *testing.T, name string, a api.Arena, fields int, want api.Arena, went int) {
	t.Helper()
	b, n, e := fingers.Squeeze(a, fields)
	if e != api.OK || n != went || !equalArenas(b, want) {
		t.Fatalf("%s: Squeeze of %x, fields %d: %x %d %d, want %x %d", name, a, fields, b, n, e, want, went)
	}
}

type squeezeCase struct {
	name                 string
	words, roots         []uint64
	wantWords, wantRoots []uint64
	went                 int
}

func runSqueezes(t *testing.T, fields int, cases []squeezeCase) {
	t.Helper()
	for _, c := range cases {
		holdSqueeze(t, c.name, api.Arena{Words: c.words, Roots: c.roots}, fields, api.Arena{Words: c.wantWords, Roots: c.wantRoots}, c.went)
	}
}

func TestExample(t *testing.T) {
	runSqueezes(t, 0, []squeezeCase{
		{"the second and the fourth", row(head(0), head(0), head(0), head(0)), row(at(1), at(3)), row(head(0), head(0)), row(at(1), at(0)), 1},
		{"the fourth and the second", row(head(0), head(0), head(0), head(0)), row(at(3), at(1)), row(head(0), head(0)), row(at(0), at(1)), 1},
		{"told from each other by age", row(aged(0, 1), aged(0, 2), aged(0, 3), aged(0, 4)), row(at(1), at(3)), row(aged(0, 4), aged(0, 2)), row(at(1), at(0)), 1},
	})
}

// whoGoes has which of eight objects can be come to, and who stands at each of the kept places then.
var whoGoes = []struct {
	reached, kept []int
	went          int
}{
	{nil, nil, 0},
	{[]int{0}, []int{0}, 0},
	{[]int{1}, []int{1}, 1},
	{[]int{7}, []int{7}, 1},
	{[]int{0, 1}, []int{0, 1}, 0},
	{[]int{0, 2}, []int{0, 2}, 1},
	{[]int{0, 7}, []int{0, 7}, 1},
	{[]int{1, 2}, []int{2, 1}, 1},
	{[]int{1, 7}, []int{7, 1}, 1},
	{[]int{2, 3}, []int{3, 2}, 2},
	{[]int{6, 7}, []int{7, 6}, 2},
	{[]int{0, 1, 2}, []int{0, 1, 2}, 0},
	{[]int{1, 2, 3}, []int{3, 1, 2}, 1},
	{[]int{2, 3, 4}, []int{4, 3, 2}, 2},
	{[]int{3, 4, 5}, []int{5, 4, 3}, 3},
	{[]int{5, 6, 7}, []int{7, 6, 5}, 3},
	{[]int{0, 2, 4}, []int{0, 4, 2}, 1},
	{[]int{1, 3, 5}, []int{5, 1, 3}, 2},
	{[]int{0, 1, 2, 3}, []int{0, 1, 2, 3}, 0},
	{[]int{1, 2, 3, 4}, []int{4, 1, 2, 3}, 1},
	{[]int{0, 2, 4, 6}, []int{0, 6, 2, 4}, 2},
	{[]int{1, 3, 5, 7}, []int{7, 1, 5, 3}, 2},
	{[]int{0, 3, 4, 7}, []int{0, 7, 4, 3}, 2},
	{[]int{0, 1, 6, 7}, []int{0, 1, 7, 6}, 2},
	{[]int{2, 3, 4, 5}, []int{5, 4, 2, 3}, 2},
	{[]int{4, 5, 6, 7}, []int{7, 6, 5, 4}, 4},
	{[]int{0, 1, 2, 3, 7}, []int{0, 1, 2, 3, 7}, 1},
	{[]int{2, 4, 5, 6, 7}, []int{7, 6, 2, 5, 4}, 3},
	{[]int{3, 4, 5, 6, 7}, []int{7, 6, 5, 3, 4}, 3},
	{[]int{0, 2, 3, 4, 5, 6}, []int{0, 6, 2, 3, 4, 5}, 1},
	{[]int{1, 3, 4, 5, 6, 7}, []int{7, 1, 6, 3, 4, 5}, 2},
	{[]int{2, 3, 4, 5, 6, 7}, []int{7, 6, 2, 3, 4, 5}, 2},
	{[]int{1, 2, 3, 4, 5, 6, 7}, []int{7, 1, 2, 3, 4, 5, 6}, 1},
	{[]int{0, 1, 2, 4, 5, 6, 7}, []int{0, 1, 2, 7, 4, 5, 6}, 1},
	{[]int{0, 1, 2, 3, 4, 5, 6}, []int{0, 1, 2, 3, 4, 5, 6}, 0},
	{[]int{0, 1, 2, 3, 4, 5, 6, 7}, []int{0, 1, 2, 3, 4, 5, 6, 7}, 0},
}

// refer has a reference to each of these objects, where those of some size stand in this order.
func refer(size int, order, numbers []int) (list []uint64) {
	for _, o := range numbers {
		list = append(list, at(size*slices.Index(order, o)))
	}
	return list
}

func TestWhoGoesWhere(t *testing.T) {
	for _, c := range whoGoes {
		for fields := range api.MaxFields + 1 {
			roots := slices.Clone(c.reached)
			for range 2 {
				a := api.Arena{Words: objects(fields, upTo(8)...), Roots: refer(1+fields, upTo(8), roots)}
				want := api.Arena{Words: objects(fields, c.kept...), Roots: refer(1+fields, c.kept, roots)}
				holdSqueeze(t, "by roots", a, fields, want, c.went)
				slices.Reverse(roots)
			}
		}
	}
}

// TestWhoGoesWhereByFields has one root alone: each object that can be come to refers to the next one by its last field, and so round.
func TestWhoGoesWhereByFields(t *testing.T) {
	link := func(a api.Arena, size int, order, reached []int) {
		for i, o := range reached {
			next := reached[(i+1)%len(reached)]
			a.Words[size*slices.Index(order, o)+size-1] = at(size * slices.Index(order, next))
		}
	}
	for _, c := range whoGoes[1:] {
		for fields := 1; fields <= api.MaxFields; fields++ {
			size := 1 + fields
			for _, first := range c.reached {
				a := api.Arena{Words: objects(fields, upTo(8)...), Roots: row(at(size * first))}
				link(a, size, upTo(8), c.reached)
				want := api.Arena{Words: objects(fields, c.kept...), Roots: refer(size, c.kept, []int{first})}
				link(want, size, c.kept, c.reached)
				holdSqueeze(t, "by fields", a, fields, want, c.went)
			}
		}
	}
}

func TestWhatIsGone(t *testing.T) {
	for fields := range api.MaxFields + 1 {
		one, two := objects(fields, 1), objects(fields, 1, 2)
		last := at(1 + fields)
		numbers := slices.Repeat(row(of(0), of(-1)), 4)
		runSqueezes(t, fields, []squeezeCase{
			{"no word at all", nil, nil, nil, nil, 0},
			{"no word, empty lists", row(), row(), nil, nil, 0},
			{"no word, but numbers as roots", nil, numbers, nil, numbers, 0},
			{"one object, no root", one, nil, nil, nil, 0},
			{"one object, empty roots", one, row(), nil, nil, 0},
			{"one object, roots that are numbers", one, numbers, nil, numbers, 0},
			{"one object, come to", one, row(at(0)), one, row(at(0)), 0},
			{"two objects, no root", two, nil, nil, nil, 0},
			{"two objects, roots that are numbers", two, numbers, nil, numbers, 0},
			{"two objects, the first one come to", two, row(at(0)), one, row(at(0)), 0},
			{"two objects, the last one come to", two, row(last), objects(fields, 2), row(at(0)), 1},
			{"two objects, both come to", two, row(at(0), last), two, row(at(0), last), 0},
			{"two objects, both come to, the last one first", two, row(last, at(0)), two, row(last, at(0)), 0},
			{"numbers between", two, row(of(0), last, of(1), last, of(-1)), objects(fields, 2), row(of(0), at(0), of(1), at(0), of(-1)), 1},
			{"all roots to one object", two, slices.Repeat(row(last), api.MaxRoots), objects(fields, 2), slices.Repeat(row(at(0)), api.MaxRoots), 1},
		})
	}
}

// By their ages, or by numbers in their fields, objects are told from each other in what follows.

func TestNobodyIsKeptBySuchThatGo(t *testing.T) {
	runSqueezes(t, 1, []squeezeCase{
		{"who refers to what stays", row(head(1), at(2), aged(1, 4), of(5)), row(at(2)), row(aged(1, 4), of(5)), row(at(0)), 1},
		{"to itself", row(head(1), at(0), aged(1, 4), of(5)), row(at(2)), row(aged(1, 4), of(5)), row(at(0)), 1},
		{"to itself, the last one", row(aged(1, 4), of(5), head(1), at(2)), row(at(0)), row(aged(1, 4), of(5)), row(at(0)), 0},
		{"to each other", row(head(1), at(2), head(1), at(0), aged(1, 4), of(5)), row(at(4)), row(aged(1, 4), of(5)), row(at(0)), 1},
		{"to each other, no root", row(head(1), at(2), head(1), at(0)), nil, nil, nil, 0},
		{"marked, and it keeps nobody", row(set(head(1)), at(2), set(head(1)), of(1), aged(1, 4), of(5)), row(at(4)), row(aged(1, 4), of(5)), row(at(0)), 1},
		{"all marked, no root", row(set(head(1)), at(0), set(head(1)), at(0)), nil, nil, nil, 0},
		{"marked, behind all that stay", row(aged(1, 4), of(5), set(head(1)), at(0), set(head(1)), at(2)), row(at(0)), row(aged(1, 4), of(5)), row(at(0)), 0},
		{"marked, between such that stay", row(aged(1, 1), of(5), set(head(1)), at(4), aged(1, 2), of(6)), row(at(0), at(4)), row(aged(1, 1), of(5), aged(1, 2), of(6)), row(at(0), at(2)), 1},
	})
}

func TestReferencesAreTurned(t *testing.T) {
	runSqueezes(t, 1, []squeezeCase{
		{"up, nobody goes", row(aged(1, 1), at(2), aged(1, 2), of(5), head(1), of(9)), row(at(0)),
			row(aged(1, 1), at(2), aged(1, 2), of(5)), row(at(0)), 0},
		{"down, nobody goes", row(aged(1, 1), of(5), aged(1, 2), at(0), head(1), of(9)), row(at(2)),
			row(aged(1, 1), of(5), aged(1, 2), at(0)), row(at(2)), 0},
		{"up, to one that goes, and stands further up still", row(aged(1, 1), at(4), head(1), of(9), aged(1, 2), of(5)), row(at(0)),
			row(aged(1, 1), at(2), aged(1, 2), of(5)), row(at(0)), 1},
		{"up, to one that goes, and stands further down now", row(head(1), of(9), aged(1, 1), at(4), aged(1, 2), of(5)), row(at(2)),
			row(aged(1, 2), of(5), aged(1, 1), at(0)), row(at(2)), 1},
		{"down, from one that goes, and stands further up still", row(aged(1, 1), of(5), head(1), of(9), aged(1, 2), at(0)), row(at(4)),
			row(aged(1, 1), of(5), aged(1, 2), at(0)), row(at(2)), 1},
		{"down, from one that goes, and stands further down now", row(head(1), of(9), aged(1, 1), of(5), aged(1, 2), at(2)), row(at(4)),
			row(aged(1, 2), at(2), aged(1, 1), of(5)), row(at(0)), 1},
		{"up, both go", row(head(1), of(9), head(1), of(9), aged(1, 1), at(6), aged(1, 2), of(5)), row(at(4)),
			row(aged(1, 2), of(5), aged(1, 1), at(0)), row(at(2)), 2},
		{"down, both go", row(head(1), of(9), head(1), of(9), aged(1, 1), of(5), aged(1, 2), at(4)), row(at(6)),
			row(aged(1, 2), at(2), aged(1, 1), of(5)), row(at(0)), 2},
		{"to itself, and it stays", row(aged(1, 1), at(0), head(1), of(9)), row(at(0)),
			row(aged(1, 1), at(0)), row(at(0)), 0},
		{"to itself, and it goes", row(head(1), of(9), head(1), of(8), aged(1, 1), at(4)), row(at(4)),
			row(aged(1, 1), at(0)), row(at(0)), 1},
		{"to each other, both stay, another goes", row(aged(1, 1), at(2), aged(1, 2), at(0), head(1), of(9), aged(1, 3), of(5)), row(at(0), at(6)),
			row(aged(1, 1), at(2), aged(1, 2), at(0), aged(1, 3), of(5)), row(at(0), at(4)), 1},
		{"to each other, one stays", row(aged(1, 1), at(4), head(1), at(0), aged(1, 2), at(0)), row(at(4)),
			row(aged(1, 1), at(2), aged(1, 2), at(0)), row(at(2)), 1},
		{"to each other, both go", row(head(1), at(0), head(1), at(0), aged(1, 1), at(6), aged(1, 2), at(4)), row(at(4)),
			row(aged(1, 2), at(2), aged(1, 1), at(0)), row(at(2)), 2},
		{"three in a circle, one stays", row(head(1), of(9), aged(1, 1), at(8), head(1), of(9), aged(1, 2), at(2), aged(1, 3), at(6)), row(at(6)),
			row(aged(1, 3), at(4), aged(1, 1), at(0), aged(1, 2), at(2)), row(at(4)), 2},
	})
	runSqueezes(t, 4, []squeezeCase{
		{"all of MaxFields", row(head(4), of(9), of(9), of(9), of(9), aged(4, 1), at(10), at(5), at(15), at(10), aged(4, 2), of(1), at(5), of(2), at(15), aged(4, 3), at(15), of(3), of(4), at(10)), row(at(10)),
			row(aged(4, 3), at(0), of(3), of(4), at(10), aged(4, 1), at(10), at(5), at(0), at(10), aged(4, 2), of(1), at(5), of(2), at(0)), row(at(10)), 1},
	})
}

func TestFoundBySeveral(t *testing.T) {
	runSqueezes(t, 2, []squeezeCase{
		{"by two fields of one that stays", row(head(2), of(8), of(9), aged(2, 1), at(6), at(6), aged(2, 2), of(5), of(6)), row(at(3)),
			row(aged(2, 2), of(5), of(6), aged(2, 1), at(0), at(0)), row(at(3)), 1},
		{"by two fields of one that goes", row(head(2), of(8), of(9), aged(2, 1), of(5), of(6), aged(2, 2), at(3), at(3)), row(at(6)),
			row(aged(2, 2), at(3), at(3), aged(2, 1), of(5), of(6)), row(at(0)), 1},
		{"by a root and by a field", row(head(2), of(8), of(9), aged(2, 1), of(1), at(6), aged(2, 2), of(5), of(6)), row(at(6), at(3), at(6)),
			row(aged(2, 2), of(5), of(6), aged(2, 1), of(1), at(0)), row(at(0), at(3), at(0)), 1},
		{"by two ways", row(aged(2, 0), at(3), at(9), aged(2, 1), of(1), at(12), head(2), of(8), of(9), aged(2, 2), at(12), of(2), aged(2, 3), of(3), of(4)), row(at(0)),
			row(aged(2, 0), at(3), at(9), aged(2, 1), of(1), at(6), aged(2, 3), of(3), of(4), aged(2, 2), at(6), of(2)), row(at(0)), 1},
		{"by ways of two lengths", row(head(2), at(3), at(3), aged(2, 1), at(6), at(9), aged(2, 2), at(9), of(2), aged(2, 3), of(3), of(4)), row(at(3)),
			row(aged(2, 3), of(3), of(4), aged(2, 1), at(6), at(0), aged(2, 2), at(0), of(2)), row(at(3)), 1},
		{"to itself by both fields", row(head(2), of(8), of(9), aged(2, 2), at(3), at(3)), row(at(3), at(3)),
			row(aged(2, 2), at(0), at(0)), row(at(0), at(0)), 1},
		{"two circles through one that goes", row(aged(2, 1), at(9), of(1), head(2), of(8), of(9), aged(2, 2), of(2), at(9), aged(2, 3), at(0), at(6)), row(at(9)),
			row(aged(2, 1), at(3), of(1), aged(2, 3), at(0), at(6), aged(2, 2), of(2), at(3)), row(at(3)), 1},
	})
}

func TestNumbersStay(t *testing.T) {
	runSqueezes(t, 2, []squeezeCase{
		{"as large as places", row(head(2), of(8), of(9), head(2), of(0), of(3)), row(at(3), of(3), of(0)),
			row(head(2), of(0), of(3)), row(at(0), of(3), of(0)), 1},
		{"as large as words of places", row(head(2), of(8), of(9), head(2), of(6), of(12)), row(at(3), of(6), of(12)),
			row(head(2), of(6), of(12)), row(at(0), of(6), of(12)), 1},
		{"whose words are next to those of places", row(head(2), of(8), of(9), head(2), at(3)+1, 1), row(at(3), at(3)+1, 5),
			row(head(2), at(3)+1, 1), row(at(0), at(3)+1, 5), 1},
		{"among references", row(head(2), of(8), of(9), aged(2, 1), of(6), at(6), aged(2, 2), at(6), of(6)), row(of(6), at(6), of(3), at(3)),
			row(aged(2, 2), at(0), of(6), aged(2, 1), of(6), at(0)), row(of(6), at(0), of(3), at(3)), 1},
		{"that would be headers", row(head(2), of(8), of(9), head(2), head(1), aged(3, 6)), row(at(3), head(1), aged(3, 7)),
			row(head(2), head(1), aged(3, 6)), row(at(0), head(1), aged(3, 7)), 1},
		{"that would be marked headers", row(head(2), of(8), of(9), head(2), set(head(1)), set(aged(3, 6))), row(set(head(1)), at(3), set(aged(3, 7))),
			row(head(2), set(head(1)), set(aged(3, 6))), row(set(head(1)), at(0), set(aged(3, 7))), 1},
		{"that have the bits of marks and ages alone", row(head(2), of(8), of(9), head(2), markBit|1, 7<<9|1), row(at(3), markBit|1, 1<<9|1),
			row(head(2), markBit|1, 7<<9|1), row(at(0), markBit|1, 1<<9|1), 1},
		{"below zero", row(head(2), of(8), of(9), head(2), of(-1), of(-3)), row(of(-3), at(3)),
			row(head(2), of(-1), of(-3)), row(of(-3), at(0)), 1},
		{"MaxWords and beyond", row(head(2), of(8), of(9), head(2), of(api.MaxWords-1), of(api.MaxWords)), row(of(api.MaxWords), at(3)),
			row(head(2), of(api.MaxWords-1), of(api.MaxWords)), row(of(api.MaxWords), at(0)), 1},
		{"the least and the greatest", row(head(2), of(8), of(9), head(2), of(api.MinInt), of(api.MaxInt)), row(of(api.MaxInt), of(api.MinInt), at(3)),
			row(head(2), of(api.MinInt), of(api.MaxInt)), row(of(api.MaxInt), of(api.MinInt), at(0)), 1},
		{"by 2^32 greater than places", row(head(2), of(8), of(9), head(2), of(3+1<<32), of(1<<32)), row(of(3+1<<32), at(3)),
			row(head(2), of(3+1<<32), of(1<<32)), row(of(3+1<<32), at(0)), 1},
		{"of objects that stay", row(head(2), of(0), of(3), head(2), of(8), of(9)), row(at(0), of(0), of(3)),
			row(head(2), of(0), of(3)), row(at(0), of(0), of(3)), 0},
	})
}

func TestMarksAndAges(t *testing.T) {
	for age := range api.MaxAge + 1 {
		for fields := range api.MaxFields + 1 {
			size := 1 + fields
			list := slices.Repeat(row(of(4)), fields)
			made := append(row(aged(fields, age)), list...)
			other := append(row(set(aged(fields, 7-age))), list...)
			unset := append(row(aged(fields, 7-age)), list...)
			for _, h := range row(aged(fields, age), set(aged(fields, age))) {
				alone := append(row(h), list...)
				runSqueezes(t, fields, []squeezeCase{
					{"it stays", alone, row(at(0)), made, row(at(0)), 0},
					{"it stays, and a marked one is gone behind it", slices.Concat(alone, other), row(at(0)), made, row(at(0)), 0},
					{"it goes to where a marked one stood", slices.Concat(other, alone), row(at(size)), made, row(at(0)), 1},
					{"it goes over several", slices.Concat(other, unset, other, alone, unset), row(at(3 * size)), made, row(at(0)), 1},
					{"another one goes ahead of it", slices.Concat(unset, alone, other), row(at(size), at(2*size)), slices.Concat(unset, made), row(at(size), at(0)), 1},
					{"another one stays ahead of it", slices.Concat(other, unset, alone), row(at(0), at(2*size)), slices.Concat(unset, made), row(at(0), at(size)), 1},
				})
			}
		}
	}
}

func TestLimits(t *testing.T) {
	for fields := range api.MaxFields + 1 {
		n, size := most(fields), 1+fields
		of8 := func(place func(r int) int) (list []uint64) {
			for r := range api.MaxRoots {
				list = append(list, at(size*place(r)))
			}
			return list
		}
		holdSqueeze(t, "the last MaxRoots come to", crowd(fields), fields, api.Arena{
			Words: objects(fields, n-1, n-2, n-3, n-4, n-5, n-6, n-7, n-8),
			Roots: of8(func(r int) int { return r }),
		}, api.MaxRoots)
		nobody := crowd(fields)
		nobody.Roots = nil
		holdSqueeze(t, "none come to", nobody, fields, api.Arena{}, 0)
		numbers := crowd(fields)
		numbers.Roots = slices.Repeat(row(of(3)), api.MaxRoots)
		holdSqueeze(t, "MaxRoots numbers", numbers, fields, api.Arena{Roots: numbers.Roots}, 0)
		same := crowd(fields)
		same.Roots = slices.Repeat(row(at(size*(n-1))), api.MaxRoots)
		holdSqueeze(t, "MaxRoots roots to the last object", same, fields, api.Arena{Words: objects(fields, n-1), Roots: slices.Repeat(row(at(0)), api.MaxRoots)}, 1)
		first := crowd(fields)
		first.Roots = of8(func(r int) int { return r })
		holdSqueeze(t, "the first MaxRoots come to", first, fields, api.Arena{Words: objects(fields, upTo(api.MaxRoots)...), Roots: first.Roots}, 0)
		spread := crowd(fields)
		spread.Roots = of8(func(r int) int { return 6*r + 1 })
		holdSqueeze(t, "MaxRoots objects far from each other", spread, fields, api.Arena{
			Words: objects(fields, 43, 1, 37, 31, 25, 19, 13, 7),
			Roots: row(at(size), at(7*size), at(6*size), at(5*size), at(4*size), at(3*size), at(2*size), at(0)),
		}, 6)
	}
}

// Of a long way round all objects stay.
func TestAllStay(t *testing.T) {
	for fields := 1; fields <= api.MaxFields; fields++ {
		for _, step := range []int{1, -1} {
			a := circle(fields, step)
			holdSqueeze(t, "a circle", a, fields, a, 0)
			a.Roots = slices.Repeat(row(at((1+fields)*(most(fields)-1))), api.MaxRoots)
			holdSqueeze(t, "a circle, come to by its last one", a, fields, a, 0)
		}
	}
}

// Of a long way by each second one the upper half goes to where the odd ones stood, the last one first.
func TestHalfOfThemGo(t *testing.T) {
	const n = api.MaxWords / 2
	now := func(o int) int {
		if o < n/2 {
			return o
		}
		return n - 1 - o
	}
	for _, step := range []int{2, -2} {
		want := api.Arena{Words: make([]uint64, n), Roots: row(at(0))}
		for o := 0; o < n; o += 2 {
			want.Words[2*now(o)] = aged(1, o%8)
			want.Words[2*now(o)+1] = at(2 * now((o+step+n)%n))
		}
		holdSqueeze(t, "a way by each second one", circle(1, step), 1, want, n/4)
	}
}
