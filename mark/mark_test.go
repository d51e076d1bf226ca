package mark_test

import (
	"math"
	"testing"

	"ragpicker/api"
	"ragpicker/arena"
	"ragpicker/mark"
)

// holdMark holds what Mark tells of a against want, at all of the rooms.
func holdMark(t *testing.T, name string, a, want api.Arena) {
	t.Helper()
	for _, room := range rooms {
		if m, e := mark.Mark(a, room); e != api.OK || !equalArenas(m, want) {
			t.Fatalf("%s, room %d: Mark of %x: %x %d, want %x", name, room, a, m, e, want)
		}
	}
}

func TestMark(t *testing.T) {
	cases := []struct {
		name  string
		words []uint64
		roots []uint64
		want  []uint64
	}{
		{"no word at all", nil, nil, nil},
		{"no word, but numbers as roots", nil, row(of(0), of(-1)), nil},
		{"no root", row(head(0), head(1), at(0)), nil, row(head(0), head(1), at(0))},
		{"no root, all marked", row(set(head(0)), set(head(1)), at(0)), nil, row(head(0), head(1), at(0))},
		{"a root that is a number", row(set(head(0)), head(0)), row(of(0)), row(head(0), head(0))},
		{"a root, not its neighbours", row(head(0), head(0), head(0)), row(at(1)), row(head(0), set(head(0)), head(0))},
		{"the same root twice", row(head(0), head(0)), row(at(1), at(1)), row(head(0), set(head(0)))},
		{"all roots, not the first one alone", row(head(0), head(0), head(0)), row(at(2), of(2), at(0)), row(set(head(0)), head(0), set(head(0)))},
		{"a field to what stands behind", row(head(1), at(2), head(0)), row(at(0)), row(set(head(1)), at(2), set(head(0)))},
		{"a field to what stands ahead", row(head(0), head(1), at(0)), row(at(1)), row(set(head(0)), set(head(1)), at(0))},
		{"a reference is a way there, not back", row(head(1), at(2), head(0)), row(at(2)), row(head(1), at(2), set(head(0)))},
		{"a field that is a number", row(head(0), head(2), of(0), of(1)), row(at(1)), row(head(0), set(head(2)), of(0), of(1))},
		{"the last of four fields", row(head(0), head(4), of(0), of(0), of(0), at(0)), row(at(1)), row(set(head(0)), set(head(4)), of(0), of(0), of(0), at(0))},
		{"to itself, and come to", row(head(1), at(0)), row(at(0)), row(set(head(1)), at(0))},
		{"to itself, and not come to", row(set(head(1)), at(0), head(0)), row(at(2)), row(head(1), at(0), set(head(0)))},
		{"to each other, and come to", row(head(1), at(2), head(1), at(0)), row(at(2)), row(set(head(1)), at(2), set(head(1)), at(0))},
		{"to each other, and not come to", row(set(head(1)), at(2), head(1), at(0), head(0)), row(at(4)), row(head(1), at(2), head(1), at(0), set(head(0)))},
		{"a mark that is set keeps nobody", row(set(head(1)), at(2), head(0)), nil, row(head(1), at(2), head(0))},
		{"a mark that is set stops nobody", row(set(head(1)), at(2), set(head(1)), at(4), head(0)), row(at(0)), row(set(head(1)), at(2), set(head(1)), at(4), set(head(0)))},
		{"ages stay", row(aged(1, 7), at(2), set(aged(0, 5)), set(aged(0, 3)), aged(0, 1)), row(at(0)), row(set(aged(1, 7)), at(2), set(aged(0, 5)), aged(0, 3), aged(0, 1))},
		{"fields that would be headers stay", row(head(2), head(1), set(head(3)), set(head(1)), set(head(1))), row(at(0), head(1)), row(set(head(2)), head(1), set(head(3)), head(1), set(head(1)))},
		{"the least and the greatest number stay", row(head(2), of(api.MinInt), of(api.MaxInt)), row(of(api.MinInt), at(0)), row(set(head(2)), of(api.MinInt), of(api.MaxInt))},
		{"two ways to one", row(head(2), at(3), at(5), head(1), at(7), head(1), at(7), head(0)), row(at(0)), row(set(head(2)), at(3), at(5), set(head(1)), at(7), set(head(1)), at(7), set(head(0)))},
	}
	for _, c := range cases {
		holdMark(t, c.name, api.Arena{Words: c.words, Roots: c.roots}, api.Arena{Words: c.want, Roots: c.roots})
	}
}

func TestMarkOfLimits(t *testing.T) {
	few := crowd()
	for i := range api.MaxRoots {
		few.Words[api.MaxWords-1-i] = set(head(0))
	}
	holdMark(t, "MaxWords objects, MaxRoots come to", crowd(), few)
	for _, step := range []int{1, -1, 3, 63, 65} {
		all := chain(step)
		for place := 0; place < api.MaxWords; place += 2 {
			all.Words[place] = set(all.Words[place])
		}
		holdMark(t, "a long way", chain(step), all)
	}
	half := chain(2)
	for place := 0; place < api.MaxWords; place += 4 {
		half.Words[place] = set(half.Words[place])
	}
	holdMark(t, "a long way past each second one", chain(2), half)
	for name, a := range map[string]api.Arena{"tree": tree(), "dense": dense()} {
		want := cloneArena(a)
		for place := range api.MaxWords / 5 {
			want.Words[5*place] = set(want.Words[5*place])
		}
		want.Words[api.MaxWords-1] = head(0)
		holdMark(t, name, a, want)
	}
}

func TestMarkOfRoom(t *testing.T) {
	for _, a := range []api.Arena{{}, {Words: row(head(0)), Roots: row(at(0))}, crowd(), tree()} {
		for _, room := range []int{0, -1, -api.MaxRoom, math.MinInt, api.MaxRoom + 1, api.MaxWords, 1 << 32, 1<<32 + 1, math.MaxInt} {
			if m, e := mark.Mark(a, room); e != api.ErrRange || !isZeroArena(m) {
				t.Errorf("room %d: %x %d, want %d alone", room, m, e, api.ErrRange)
			}
		}
		for room := 1; room <= api.MaxRoom; room++ {
			if m, e := mark.Mark(a, room); e != api.OK || !equalArenas(m, slowMark(a)) {
				t.Errorf("room %d: %x %d", room, m, e)
			}
		}
	}
}

func TestAllSmallArenas(t *testing.T) {
	seen := map[api.Errno]int{}
	for a := range smallArenas(5) {
		want := arena.Check(a)
		seen[want]++
		if want == api.OK {
			holdMark(t, "small", a, slowMark(a))
			holdSweep(t, a, slowSweep(a))
			continue
		}
		if m, e := mark.Mark(a, 1); e != want || !isZeroArena(m) {
			t.Fatalf("Mark of %x: %x %d, want %d alone", a, m, e, want)
		}
		if l, e := mark.Sweep(a); e != want || len(l) != 0 {
			t.Fatalf("Sweep of %x: %v %d, want %d alone", a, l, e, want)
		}
	}
	if len(seen) != 3 || seen[api.OK] < 1000 || seen[api.ErrForm] < 1000 || seen[api.ErrArg] < 1000 {
		t.Errorf("too few of a kind: %v", seen)
	}
}

func TestManyArenas(t *testing.T) {
	d := dice(1)
	large, part := 0, 0
	for range 3000 {
		a, starts := d.arena(api.MaxWords)
		want := slowMark(a)
		holdMark(t, "thrown", a, want)
		holdSweep(t, a, slowSweep(a))
		holdSweep(t, want, slowSweep(want))
		if len(starts) > api.MaxObjects {
			large++
		}
		if n := marked(want, starts); n > len(starts)/4 && n < len(starts)*3/4 {
			part++
		}
	}
	if large < 1000 || part < 200 {
		t.Errorf("of 3000 arenas %d have more than MaxObjects objects, and of %d a good part is marked", large, part)
	}
}

func marked(a api.Arena, starts []int) (n int) {
	for _, place := range starts {
		if a.Words[place]&markBit != 0 {
			n++
		}
	}
	return n
}

func TestMarkOnceMoreChangesNothing(t *testing.T) {
	d := dice(2)
	for range 500 {
		a, _ := d.arena(api.MaxWords)
		m, e := mark.Mark(a, 1+d.below(api.MaxRoom))
		if e != api.OK || arena.Check(m) != api.OK {
			t.Fatalf("Mark of %x: %x %d", a, m, e)
		}
		holdMark(t, "once more", m, m)
	}
}
