package fingers_test

import (
	"slices"
	"testing"

	"ragpicker/api"
	"ragpicker/arena"
	"ragpicker/fingers"
	"ragpicker/graph"
	"ragpicker/mark"
	"ragpicker/move"
	"ragpicker/slide"
)

// wantError tells what is wrong with a and fields, if anything is: what Check says of a, then a number of fields that may not be, then an object that has another one.
func wantError(a api.Arena, fields int) api.Errno {
	if e := arena.Check(a); e != api.OK {
		return e
	}
	if fields < 0 || fields > api.MaxFields {
		return api.ErrRange
	}
	starts, _ := arena.Starts(a)
	for _, place := range starts {
		if len(fieldsOf(a, place)) != fields {
			return api.ErrForm
		}
	}
	return api.OK
}

// holdAny holds Squeeze against the chapter's words, whether it tells an error or not.
func holdAny(t *testing.T, name string, a api.Arena, fields int) api.Errno {
	t.Helper()
	want := wantError(a, fields)
	if want == api.OK {
		b, went := slowSqueeze(a, fields)
		holdSqueeze(t, name, a, fields, b, went)
	} else if b, n, e := fingers.Squeeze(a, fields); e != want || n != 0 || !isZeroArena(b) {
		t.Fatalf("%s: Squeeze of %x, fields %d: %x %d %d, want %d alone", name, a, fields, b, n, e, want)
	}
	return want
}

func TestAllSmallArenas(t *testing.T) {
	seen := map[api.Errno]int{}
	hold := func(words, roots int, fields ...int) {
		for a := range smallArenas(words, roots) {
			for _, n := range fields {
				seen[holdAny(t, "small", a, n)]++
			}
		}
	}
	hold(5, 1, 0, 1)
	hold(4, 2, 0, 1)
	hold(4, 1, -1, 2, 3, 4, 5)
	for _, e := range []api.Errno{api.OK, api.ErrForm, api.ErrArg, api.ErrRange} {
		if seen[e] < 500 {
			t.Errorf("too few are told %d: %v", e, seen)
		}
	}
	if len(seen) != 4 {
		t.Errorf("told %v", seen)
	}
}

func TestAllOfSomeShapes(t *testing.T) {
	for _, c := range []struct{ many, fields, roots int }{{6, 0, 4}, {4, 0, 6}, {5, 1, 1}, {4, 1, 2}, {3, 2, 1}, {3, 1, 4}, {2, 3, 2}, {2, 4, 1}} {
		for a := range shapedArenas(c.many, c.fields, c.roots) {
			if e := holdAny(t, "shaped", a, c.fields); e != api.OK {
				t.Fatalf("%x: %d", a, e)
			}
		}
	}
}

func TestManyArenas(t *testing.T) {
	d := dice(1)
	seen := map[int]int{}
	part := 0
	for range 1500 {
		for fields := range api.MaxFields + 1 {
			a := d.arena(api.MaxWords, fields)
			if e := holdAny(t, "thrown", a, fields); e != api.OK {
				t.Fatalf("%x: %d", a, e)
			}
			reached := slowReached(a)
			if _, went := slowPlaces(reached, 1+fields); went > 1 && went < len(reached) {
				seen[fields]++
			}
			if n := len(a.Words) / (1 + fields); len(reached) > n/4 && len(reached) < n*3/4 {
				part++
			}
		}
	}
	for fields := range api.MaxFields + 1 {
		if seen[fields] < 50 {
			t.Errorf("fields %d: of 1500 arenas only %d have several that go and some that stay", fields, seen[fields])
		}
	}
	if part < 200 {
		t.Errorf("of %d only a good part is come to", part)
	}
}

// TestOtherNumbersOfFields asks arenas of one number of fields for all others as well.
func TestOtherNumbersOfFields(t *testing.T) {
	d := dice(2)
	for range 300 {
		for fields := range api.MaxFields + 1 {
			a := d.arena(api.MaxWords, fields)
			for asked := -2; asked <= api.MaxFields+2; asked++ {
				holdAny(t, "asked for another one", a, asked)
			}
		}
	}
}

// headers tells the headers of the marked objects of an arena whose objects are of one size: of those below end, and of those from there on.
func headers(marked api.Arena, size, end int) (below, above []uint64) {
	for place := 0; place < len(marked.Words); place += size {
		h := marked.Words[place]
		switch {
		case h&markBit == 0:
		case place < end:
			below = append(below, h)
		default:
			above = append(above, h)
		}
	}
	return below, above
}

// TestByWhatIsMarked asks chapter 6 who can be come to, and looks at places alone: what is told has as many objects, who stood at a kept place stands there still, and the headers of the others stand at the places between, the last one first.
func TestByWhatIsMarked(t *testing.T) {
	d := dice(3)
	for range 400 {
		for fields := range api.MaxFields + 1 {
			a, size := d.arena(api.MaxWords, fields), 1+fields
			b, went, e := fingers.Squeeze(a, fields)
			marked, _ := mark.Mark(a, api.MaxRoom)
			below, above := headers(marked, size, len(b.Words))
			if e != api.OK || went != len(above) || len(b.Words) != size*(len(below)+len(above)) {
				t.Fatalf("Squeeze of %x, fields %d: %x %d %d, want %d objects that stayed and %d that went", a, fields, b, went, e, len(below), len(above))
			}
			for place := 0; place < len(b.Words); place += size {
				h := marked.Words[place]
				if h&markBit == 0 {
					h, above = above[len(above)-1], above[:len(above)-1]
				}
				if b.Words[place] != h&^markBit {
					t.Fatalf("Squeeze of %x, fields %d: %x at %d, want %x", a, fields, b.Words[place], place, h&^markBit)
				}
			}
		}
	}
}

// Read as graphs, both tell the same, whoever has cleared up.
func TestReadsTheSame(t *testing.T) {
	d := dice(4)
	taken := 0
	for range 600 {
		for fields := range api.MaxFields + 1 {
			a := d.arena((1+fields)*api.MaxObjects, fields)
			before, _ := arena.Read(a)
			if graph.Check(before) != api.OK {
				continue
			}
			taken++
			b, _, _ := fingers.Squeeze(a, fields)
			after, e := arena.Read(b)
			if same, es := graph.Same(before, after); e != api.OK || es != api.OK || !same {
				t.Fatalf("Squeeze of %x, fields %d, reads %v %d, before it %v", a, fields, after, e, before)
			}
			reached, _ := graph.Reach(before)
			if all, _ := graph.Reach(after); len(all) != len(reached) || len(after.Objects) != len(reached) {
				t.Fatalf("Squeeze of %x, fields %d, has %d objects, %d of them come to, want %d", a, fields, len(after.Objects), len(all), len(reached))
			}
		}
	}
	if taken < 2000 {
		t.Errorf("of 3000 arenas only %d have a graph that Check takes", taken)
	}
}

// Whose objects all stay, stays as it is but for marks; and a copy is the same, whether holes were filled before or not.
func TestAmongTheOthers(t *testing.T) {
	d := dice(5)
	for range 300 {
		for fields := range api.MaxFields + 1 {
			a := d.arena(api.MaxWords, fields)
			b, _, _ := fingers.Squeeze(a, fields)
			holdSqueeze(t, "once more", b, fields, b, 0)
			slid, _ := slide.Slide(a)
			holdSqueeze(t, "moved down before", slid, fields, slid, 0)
			if len(slid.Words) != len(b.Words) || len(slid.Roots) != len(b.Roots) {
				t.Fatalf("Squeeze of %x has %d words and %d roots, Slide %d and %d", a, len(b.Words), len(b.Roots), len(slid.Words), len(slid.Roots))
			}
			copied, _ := move.Copy(b)
			if want, e := move.Copy(a); e != api.OK || !equalArenas(copied, want) {
				t.Fatalf("Copy of Squeeze of %x: %x, want %x", a, copied, want)
			}
			if same, e := slide.Slide(b); e != api.OK || !equalArenas(same, b) {
				t.Fatalf("Slide of Squeeze of %x: %x, want %x", a, same, b)
			}
			for list := range slices.Chunk(b.Words, 1+fields) {
				if list[0]&0xFF != uint64(fields) || list[0]&markBit != 0 {
					t.Fatalf("Squeeze of %x has the header %x", a, list[0])
				}
			}
		}
	}
}
