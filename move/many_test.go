package move_test

import (
	"testing"

	"ragpicker/api"
	"ragpicker/arena"
	"ragpicker/graph"
	"ragpicker/mark"
	"ragpicker/move"
)

func TestAllSmallArenas(t *testing.T) {
	seen := map[api.Errno]int{}
	hold := func(words, roots int) {
		for a := range smallArenas(words, roots) {
			want := arena.Check(a)
			seen[want]++
			if want == api.OK {
				holdCopy(t, "small", a, slowCopy(a, slowOrder(a)))
			} else if b, e := move.Copy(a); e != want || !isZeroArena(b) {
				t.Fatalf("Copy of %x: %x %d, want %d alone", a, b, e, want)
			}
		}
	}
	hold(5, 1)
	hold(4, 2)
	if len(seen) != 3 || seen[api.OK] < 1000 || seen[api.ErrForm] < 1000 || seen[api.ErrArg] < 1000 {
		t.Errorf("too few of a kind: %v", seen)
	}
}

func TestAllOfSomeShapes(t *testing.T) {
	for _, lens := range [][]int{{0, 1, 1, 2}, {2, 1, 0, 1}, {2, 2, 0}, {1, 0, 3}, {4, 0}, {1, 1, 1, 1}} {
		for a := range shapedArenas(lens...) {
			holdCopy(t, "shaped", a, slowCopy(a, slowOrder(a)))
		}
	}
}

func TestManyArenas(t *testing.T) {
	d := dice(1)
	large, part := 0, 0
	for range 5000 {
		a, starts := d.arena(api.MaxWords)
		order := slowOrder(a)
		holdCopy(t, "thrown", a, slowCopy(a, order))
		if len(starts) > api.MaxObjects {
			large++
		}
		if n := len(order); n > len(starts)/4 && n < len(starts)*3/4 {
			part++
		}
	}
	if large < 1000 || part < 200 {
		t.Errorf("of 5000 arenas %d have more than MaxObjects objects, and of %d a good part is come to", large, part)
	}
}

func TestReadsAsCanon(t *testing.T) {
	d := dice(2)
	taken := 0
	for range 3000 {
		a, _ := d.arena(api.MaxWords / 4)
		before, e := arena.Read(a)
		if e != api.OK {
			t.Fatalf("Read of %x: %d", a, e)
		}
		want, e := graph.Canon(before)
		if e != api.OK {
			continue
		}
		taken++
		b, e := move.Copy(a)
		if e != api.OK {
			t.Fatalf("Copy of %x: %d", a, e)
		}
		after, e := arena.Read(b)
		if e != api.OK || !equalGraphs(after, want) {
			t.Fatalf("Copy of %x reads %v %d, want %v", a, after, e, want)
		}
	}
	if taken < 2000 {
		t.Errorf("of 3000 arenas only %d have a graph with a Canon", taken)
	}
}

// TestWordsAreThoseOfObjects holds it against chapter 6 how many words stay, and that no more stand there.
func TestWordsAreThoseOfObjects(t *testing.T) {
	d := dice(3)
	for range 1000 {
		a, _ := d.arena(api.MaxWords)
		marked, e := mark.Mark(a, api.MaxRoom)
		if e != api.OK {
			t.Fatalf("Mark of %x: %d", a, e)
		}
		swept, _ := mark.Sweep(marked)
		want := len(a.Words)
		for _, b := range swept {
			want -= b.Len
		}
		b, e := move.Copy(a)
		if e != api.OK || arena.Check(b) != api.OK || len(b.Words) != want || len(b.Roots) != len(a.Roots) {
			t.Fatalf("Copy of %x: %x %d, want %d words", a, b, e, want)
		}
	}
}

// Whose objects stand as they are found, and all stay, stays as it is but for marks and ages.
func TestCopyOfCopy(t *testing.T) {
	d := dice(4)
	for range 500 {
		a, _ := d.arena(api.MaxWords)
		b, _ := move.Copy(a)
		for range api.MaxAge + 2 {
			want := cloneArena(b)
			for place := 0; place < len(b.Words); place += 1 + len(fieldsOf(b, place)) {
				want.Words[place] = older(b.Words[place])
			}
			holdCopy(t, "a copy", b, want)
			b = want
		}
		for place := 0; place < len(b.Words); place += 1 + len(fieldsOf(b, place)) {
			if n := len(fieldsOf(b, place)); b.Words[place] != aged(n, api.MaxAge) {
				t.Fatalf("%x, after many times: %x", a, b)
			}
		}
	}
}
