package arena_test

import (
	"slices"
	"testing"

	"ragpicker/api"
	"ragpicker/arena"
)

func TestRead(t *testing.T) {
	cases := []struct {
		name string
		a    api.Arena
		want api.Graph
	}{
		{"no word at all", api.Arena{}, api.Graph{}},
		{"no word, but numbers as roots", api.Arena{Roots: row(of(5), of(api.MinInt))}, api.Graph{Roots: vals(num(5), num(api.MinInt))}},
		{"the chapter's", api.Arena{Words: row(head(1), 11)}, api.Graph{Objects: objs(obj(num(5)))}},
		{"an object without fields", api.Arena{Words: row(head(0)), Roots: row(at(0))}, api.Graph{Objects: objs(obj()), Roots: vals(ref(0))}},
		{"places become numbers",
			api.Arena{Words: row(head(3), at(6), at(0), at(4), head(1), at(6), head(0)), Roots: row(at(6), of(6), at(4))},
			api.Graph{Objects: objs(obj(ref(2), ref(0), ref(1)), obj(ref(2)), obj()), Roots: vals(ref(2), num(6), ref(1))}},
		{"marks and ages are not seen",
			api.Arena{Words: row(used(1, 7), at(2), used(0, 0), head(1)|3<<9, of(-1)), Roots: row(at(3))},
			api.Graph{Objects: objs(obj(ref(1)), obj(), obj(num(-1))), Roots: vals(ref(2))}},
		{"what can't be come to", api.Arena{Words: row(head(1), at(0), head(0))}, api.Graph{Objects: objs(obj(ref(0)), obj())}},
		{"the least and the greatest number", api.Arena{Words: row(head(2), of(api.MinInt), of(api.MaxInt))}, api.Graph{Objects: objs(obj(num(api.MinInt), num(api.MaxInt)))}},
	}
	for _, c := range cases {
		if g, e := arena.Read(c.a); e != api.OK || !equalGraphs(g, c.want) {
			t.Errorf("%s: %v %d, want %v", c.name, g, e, c.want)
		}
	}
}

func TestReadOfMoreThanMaxObjects(t *testing.T) {
	want := api.Graph{Objects: make([]api.Object, api.MaxWords)}
	for r := range int64(api.MaxRoots) {
		want.Roots = append(want.Roots, ref(api.MaxWords-1-r))
	}
	if g, e := arena.Read(crowd()); e != api.OK || !equalGraphs(g, want) {
		t.Errorf("MaxWords objects: %v %d, want %v", g, e, want)
	}
	want = api.Graph{Roots: vals(ref(0), ref(51))}
	for o := range int64(51) {
		want.Objects = append(want.Objects, obj(ref(o), ref(51), num(api.MinInt), num(api.MaxInt)))
	}
	want.Objects = append(want.Objects, obj())
	if g, e := arena.Read(block()); e != api.OK || !equalGraphs(g, want) {
		t.Errorf("MaxWords words, all fields: %v %d, want %v", g, e, want)
	}
	for n := range 5 {
		a := api.Arena{Words: crowd().Words[:api.MaxObjects-2+n], Roots: row(at(api.MaxObjects - 3 + n))}
		g, e := arena.Read(a)
		if e != api.OK || len(g.Objects) != len(a.Words) || !slices.Equal(g.Roots, vals(ref(int64(len(a.Words)-1)))) {
			t.Errorf("%d objects: %v %d", len(a.Words), g, e)
		}
	}
}

// isHeader tells by D2's words whether a word is a header's.
func isHeader(w uint64) bool { return w>>56 == 0xA5 && w<<8>>20 == 0 && w&0xFF <= 4 }

// slowStarts tells by E1's words where objects begin: the first one at 0, and those of the rest behind it.
func slowStarts(list []uint64) ([]int, bool) {
	if len(list) == 0 {
		return nil, true
	}
	if !isHeader(list[0]) || len(list) <= int(list[0]&0xFF) {
		return nil, false
	}
	own := 1 + int(list[0]&0xFF)
	rest, ok := slowStarts(list[own:])
	starts := []int{0}
	for _, place := range rest {
		starts = append(starts, own+place)
	}
	return starts, ok
}

// slowValue tells the value of a word, among objects that begin there.
func slowValue(w uint64, starts []int) (api.Value, bool) {
	if w%2 == 1 {
		n := int64(w / 2)
		if n >= 1<<62 {
			n -= 1 << 62
			n -= 1 << 62
		}
		return num(n), true
	}
	o := slices.IndexFunc(starts, func(place int) bool { return uint64(place) == w/2 })
	return ref(int64(o)), o >= 0
}

// slowRead tells what Check, Starts and Read must.
func slowRead(a api.Arena) (g api.Graph, starts []int, e api.Errno) {
	if len(a.Words) > 256 || len(a.Roots) > 8 {
		return api.Graph{}, nil, api.ErrLarge
	}
	starts, ok := slowStarts(a.Words)
	if !ok {
		return api.Graph{}, nil, api.ErrForm
	}
	turn := func(list []uint64) (out []api.Value) {
		for _, w := range list {
			v, is := slowValue(w, starts)
			ok = ok && is
			out = append(out, v)
		}
		return out
	}
	for i, place := range starts {
		end := len(a.Words)
		if i+1 < len(starts) {
			end = starts[i+1]
		}
		g.Objects = append(g.Objects, api.Object{Fields: turn(a.Words[place+1 : end])})
	}
	g.Roots = turn(a.Roots)
	if !ok {
		return api.Graph{}, nil, api.ErrArg
	}
	return g, starts, api.OK
}

// against holds what is told of a against the chapter's words.
func against(t *testing.T, a api.Arena) api.Errno {
	t.Helper()
	graph, starts, want := slowRead(a)
	if e := arena.Check(a); e != want {
		t.Fatalf("Check of %x: %d, want %d", a, e, want)
	}
	if l, e := arena.Starts(a); e != want || !slices.Equal(l, starts) {
		t.Fatalf("Starts of %x: %v %d, want %v %d", a, l, e, starts, want)
	}
	if g, e := arena.Read(a); e != want || !equalGraphs(g, graph) {
		t.Fatalf("Read of %x: %v %d, want %v %d", a, g, e, graph, want)
	}
	return want
}

func TestAllSmallRows(t *testing.T) {
	seen := map[api.Errno]int{}
	for a := range smallArenas(5) {
		seen[against(t, a)]++
	}
	if len(seen) != 3 || seen[api.OK] < 1000 || seen[api.ErrForm] < 1000 || seen[api.ErrArg] < 1000 {
		t.Errorf("too few of a kind: %v", seen)
	}
}

func TestManyArenas(t *testing.T) {
	d := dice(1)
	for range 3000 {
		a, starts := d.arena(api.MaxWords)
		if e := against(t, a); e != api.OK {
			t.Fatalf("%x: %d", a, e)
		}
		if l, _ := arena.Starts(a); !slices.Equal(l, starts) {
			t.Fatalf("Starts of %x: %v, want %v", a, l, starts)
		}
	}
}

func TestManyBrokenArenas(t *testing.T) {
	d := dice(2)
	seen := map[api.Errno]int{}
	for range 3000 {
		a, _ := d.arena(40)
		for range 10 {
			b := cloneArena(a)
			list := b.Words
			if len(list) == 0 || len(b.Roots) > 0 && d.below(4) == 0 {
				list = b.Roots
			}
			if len(list) == 0 {
				break
			}
			i := d.below(len(list))
			switch d.below(4) {
			case 0:
				list[i] ^= 1 << d.below(64)
			case 1:
				list[i] = at(d.below(len(b.Words) + 2))
			case 2:
				list[i] = used(d.below(6), d.below(9))
			case 3:
				b.Words = b.Words[:d.below(len(b.Words)+1)]
			}
			seen[against(t, b)]++
		}
	}
	if len(seen) != 3 || seen[api.OK] < 1000 || seen[api.ErrForm] < 1000 || seen[api.ErrArg] < 1000 {
		t.Errorf("too few of a kind: %v", seen)
	}
}
