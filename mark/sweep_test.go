package mark_test

import (
	"slices"
	"testing"

	"ragpicker/api"
	"ragpicker/mark"
)

func holdSweep(t *testing.T, a api.Arena, want []api.Block) {
	t.Helper()
	if l, e := mark.Sweep(a); e != api.OK || !slices.Equal(l, want) {
		t.Fatalf("Sweep of %x: %v %d, want %v", a, l, e, want)
	}
}

func TestSweep(t *testing.T) {
	cases := []struct {
		name  string
		words []uint64
		roots []uint64
		want  []api.Block
	}{
		{"no word at all", nil, nil, nil},
		{"no word, but numbers as roots", nil, row(of(1)), nil},
		{"nothing marked", row(head(1), of(5), head(0), head(2), at(0), at(2)), nil, blocks(api.Block{At: 0, Len: 6})},
		{"nothing marked, though roots refer to all", row(head(1), at(2), head(0)), row(at(0), at(2)), blocks(api.Block{At: 0, Len: 3})},
		{"all marked", row(set(head(1)), of(5), set(head(0)), set(aged(2, 7)), at(0), at(2)), nil, nil},
		{"one object", row(head(0)), nil, blocks(api.Block{At: 0, Len: 1})},
		{"one object with all fields", row(head(4), of(0), of(0), at(0), of(0)), row(at(0)), blocks(api.Block{At: 0, Len: 5})},
		{"the first one", row(head(2), of(1), at(3), set(head(0))), nil, blocks(api.Block{At: 0, Len: 3})},
		{"the last one", row(set(head(0)), head(2), of(1), at(0)), nil, blocks(api.Block{At: 1, Len: 3})},
		{"one between two", row(set(head(1)), at(2), head(1), at(0), set(head(0))), nil, blocks(api.Block{At: 2, Len: 2})},
		{"two side by side", row(set(head(0)), head(1), of(1), head(2), of(2), of(3), set(head(0))), nil, blocks(api.Block{At: 1, Len: 5})},
		{"in turn", row(head(0), set(head(1)), of(1), head(1), of(2), set(head(0)), head(0)), nil, blocks(api.Block{At: 0, Len: 1}, api.Block{At: 3, Len: 2}, api.Block{At: 6, Len: 1})},
		{"three side by side twice", row(head(0), head(0), head(0), set(head(0)), head(0), head(0), head(0)), nil, blocks(api.Block{At: 0, Len: 3}, api.Block{At: 4, Len: 3})},
		{"ages are not seen", row(aged(0, 7), set(aged(0, 0)), aged(0, 1), set(aged(0, 7))), nil, blocks(api.Block{At: 0, Len: 1}, api.Block{At: 2, Len: 1})},
		{"fields that would be headers are none", row(set(head(2)), head(1), head(3), head(1), set(head(1))), nil, blocks(api.Block{At: 3, Len: 2})},
	}
	for _, c := range cases {
		a := api.Arena{Words: c.words, Roots: c.roots}
		if l, e := mark.Sweep(a); e != api.OK || !slices.Equal(l, c.want) {
			t.Errorf("%s: %v %d, want %v", c.name, l, e, c.want)
		}
	}
}

func TestSweepOfLimits(t *testing.T) {
	holdSweep(t, crowd(), blocks(api.Block{At: 0, Len: api.MaxWords}))
	holdSweep(t, chain(1), blocks(api.Block{At: 0, Len: api.MaxWords}))
	all, second := crowd(), crowd()
	var want []api.Block
	for place := range api.MaxWords {
		all.Words[place] = set(head(0))
		if place%2 == 0 {
			second.Words[place] = set(head(0))
		} else {
			want = append(want, api.Block{At: place, Len: 1})
		}
	}
	holdSweep(t, all, nil)
	holdSweep(t, second, want)
}

func TestMarkThenSweep(t *testing.T) {
	m, e := mark.Mark(crowd(), 1)
	if e != api.OK {
		t.Fatal(e)
	}
	holdSweep(t, m, blocks(api.Block{At: 0, Len: api.MaxWords - api.MaxRoots}))
	m, e = mark.Mark(chain(2), 1)
	if e != api.OK {
		t.Fatal(e)
	}
	var want []api.Block
	for place := 2; place < api.MaxWords; place += 4 {
		want = append(want, api.Block{At: place, Len: 2})
	}
	holdSweep(t, m, want)
}
