package arena_test

import (
	"math"
	"slices"
	"testing"

	"ragpicker/api"
	"ragpicker/arena"
)

// wrongArenas has arenas by what is told of them; each would have something to tell, if it were taken.
func wrongArenas() map[api.Errno][]api.Arena {
	words, roots := crowd(), crowd()
	words.Words = append(words.Words, head(0))
	roots.Roots = append(roots.Roots, at(0))
	return map[api.Errno][]api.Arena{
		api.ErrLarge: {words, roots},
		api.ErrForm: {
			{Words: row(head(0), head(1), at(0), 5), Roots: row(at(0))},
			{Words: row(head(1), at(0), head(2), at(0)), Roots: row(at(0))},
		},
		api.ErrArg: {
			{Words: row(head(0), head(2), at(0), at(2)), Roots: row(at(0))},
			{Words: row(head(0), head(1), 2*api.MaxWords), Roots: row(at(0))},
			{Words: row(head(0), head(1), at(0)), Roots: row(at(0), at(2))},
			{Words: row(head(0), head(1), at(0)), Roots: row(at(0), 1<<63)},
		},
	}
}

func TestErrorsComeAlone(t *testing.T) {
	for want, list := range wrongArenas() {
		for _, a := range list {
			if e := arena.Check(a); e != want {
				t.Errorf("Check of %x: %d, want %d", a, e, want)
			}
			if l, e := arena.Starts(a); e != want || len(l) != 0 {
				t.Errorf("Starts of %x: %v %d, want %d alone", a, l, e, want)
			}
			if g, e := arena.Read(a); e != want || !isZeroGraph(g) {
				t.Errorf("Read of %x: %v %d, want %d alone", a, g, e, want)
			}
		}
	}
}

// behindArena lays words behind the length of both lists that would be wrong there, or right where too few are left.
func behindArena(a api.Arena) api.Arena {
	lay := func(list []uint64) []uint64 {
		return append(slices.Clone(list), of(1), 0, 2*api.MaxWords, math.MaxUint64, head(4))[:len(list)]
	}
	return api.Arena{Words: lay(a.Words), Roots: lay(a.Roots)}
}

func wholeArena(a api.Arena) api.Arena {
	return api.Arena{Words: a.Words[:cap(a.Words)], Roots: a.Roots[:cap(a.Roots)]}
}

func TestArenasStay(t *testing.T) {
	d := dice(5)
	for range 500 {
		a, starts := d.arena(api.MaxWords)
		b := behindArena(a)
		before := cloneArena(wholeArena(b))
		if e := arena.Check(b); e != api.OK {
			t.Fatalf("Check of %x: %d", b, e)
		}
		l, e := arena.Starts(b)
		if e != api.OK || !slices.Equal(l, starts) {
			t.Fatalf("Starts of %x: %v %d, want %v", b, l, e, starts)
		}
		want, _, _ := slowRead(a)
		g, e := arena.Read(b)
		if e != api.OK || !equalGraphs(g, want) {
			t.Fatalf("Read of %x: %v %d, want %v", b, g, e, want)
		}
		spoilGraph(g)
		if !equalArenas(before, wholeArena(b)) {
			t.Fatalf("%x was changed to %x", before, wholeArena(b))
		}
	}
}

func TestNothingBehindTheLengthIsTaken(t *testing.T) {
	// Up to its capacity it would be an arena: up to its length it is none.
	list := row(head(2), of(1), of(2))
	for end, want := range []api.Errno{api.OK, api.ErrForm, api.ErrForm, api.OK} {
		if e := arena.Check(api.Arena{Words: list[:end]}); e != want {
			t.Errorf("%d words: %d, want %d", end, e, want)
		}
	}
	objects := row(head(0), head(0))
	if e := arena.Check(api.Arena{Words: objects[:1], Roots: row(at(1))}); e != api.ErrArg {
		t.Errorf("a root to what stands behind the length: %d, want %d", e, api.ErrArg)
	}
}

// behindGraph lays wrong things behind the length of each list of g.
func behindGraph(g api.Graph) api.Graph {
	wrong := ref(math.MaxInt64)
	lay := func(list []api.Value) []api.Value {
		return append(slices.Clone(list), wrong, wrong, wrong, wrong, wrong)[:len(list)]
	}
	b := api.Graph{Roots: lay(g.Roots)}
	for _, o := range g.Objects {
		b.Objects = append(b.Objects, api.Object{Fields: lay(o.Fields)})
	}
	b.Objects = append(b.Objects, obj(wrong, wrong, wrong, wrong, wrong))[:len(g.Objects)]
	return b
}

// wholeGraph has each list of g up to its capacity.
func wholeGraph(g api.Graph) api.Graph {
	w := api.Graph{Objects: slices.Clone(g.Objects[:cap(g.Objects)]), Roots: g.Roots[:cap(g.Roots)]}
	for o := range w.Objects {
		w.Objects[o].Fields = w.Objects[o].Fields[:cap(w.Objects[o].Fields)]
	}
	return w
}

// spoilGraph writes over all of g's lists, up to their capacities.
func spoilGraph(g api.Graph) {
	w := wholeGraph(g)
	for _, list := range append(fieldLists(w), w.Roots) {
		for i := range list {
			list[i] = num(99)
		}
	}
	clear(g.Objects)
}

func fieldLists(g api.Graph) [][]api.Value {
	var lists [][]api.Value
	for _, o := range g.Objects {
		lists = append(lists, o.Fields)
	}
	return lists
}

// spoilArena writes over both lists, up to their capacities.
func spoilArena(a api.Arena) {
	clear(a.Words[:cap(a.Words)])
	clear(a.Roots[:cap(a.Roots)])
}

func TestGraphsStay(t *testing.T) {
	d := dice(6)
	for range 500 {
		g := d.graph()
		b := behindGraph(g)
		before := cloneGraph(wholeGraph(b))
		want, _ := arena.Lay(g)
		a, e := arena.Lay(b)
		if e != api.OK || !equalArenas(a, want) {
			t.Fatalf("Lay of %v: %x %d, want %x", b, a, e, want)
		}
		spoilArena(a)
		if !equalGraphs(before, wholeGraph(b)) {
			t.Fatalf("%v was changed to %v", before, wholeGraph(b))
		}
	}
}

// sharing tells whether two of these lists share memory, by writing over them up to their capacities.
func sharing[T comparable](lists [][]T, sign func(at int) T) bool {
	for at, l := range lists {
		l = l[:cap(l)]
		for i := range l {
			l[i] = sign(at)
		}
	}
	for at, l := range lists {
		if slices.ContainsFunc(l, func(v T) bool { return v != sign(at) }) {
			return true
		}
	}
	return false
}

func TestAnswersShareNothing(t *testing.T) {
	d := dice(7)
	for range 500 {
		a, _ := d.arena(api.MaxWords)
		g, _ := arena.Read(a)
		if sharing(append(fieldLists(g), g.Roots), func(at int) api.Value { return num(int64(1000 + at)) }) {
			t.Fatalf("Read of %x: two lists share memory", a)
		}
		l, _ := arena.Lay(d.graph())
		if sharing([][]uint64{l.Words, l.Roots}, func(at int) uint64 { return uint64(1000 + at) }) {
			t.Fatal("Lay: both lists share memory")
		}
	}
}

func TestAnswersHangOnArgumentsAlone(t *testing.T) {
	d := dice(8)
	for range 300 {
		a, _ := d.arena(api.MaxWords)
		g := d.graph()
		l, _ := arena.Starts(a)
		r, _ := arena.Read(a)
		n, _ := arena.Lay(g)
		starts, read, laid := slices.Clone(l), cloneGraph(r), cloneArena(n)
		clear(l[:cap(l)])
		spoilGraph(r)
		spoilArena(n)
		other, _ := d.arena(api.MaxWords)
		arena.Read(other)
		arena.Lay(d.graph())
		if l, _ := arena.Starts(a); !slices.Equal(l, starts) {
			t.Fatalf("Starts of %x: %v, then %v", a, starts, l)
		}
		if r, _ := arena.Read(a); !equalGraphs(r, read) {
			t.Fatalf("Read of %x: %v, then %v", a, read, r)
		}
		if n, _ := arena.Lay(g); !equalArenas(n, laid) {
			t.Fatalf("Lay of %v: %x, then %x", g, laid, n)
		}
	}
}
