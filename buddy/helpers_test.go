package buddy_test

import (
	"iter"
	"slices"
	"testing"

	"ragpicker/api"
	"ragpicker/buddy"
)

func take(n int) api.Ask { return api.Ask{Kind: api.FTake, N: n} }

func give(at int) api.Ask { return api.Ask{Kind: api.FGive, N: at} }

func script(list ...api.Ask) []api.Ask { return list }

func places(list ...int) []int { return list }

func codes(list ...api.Errno) []api.Errno { return list }

// fine has as many codes that tell of no error.
func fine(n int) []api.Errno { return make([]api.Errno, n) }

// blocks has pairs of a place and a length.
func blocks(pairs ...[2]int) (list []api.Block) {
	for _, p := range pairs {
		list = append(list, api.Block{At: p[0], Len: p[1]})
	}
	return list
}

func equalFreed(a, b api.Freed) bool {
	return slices.Equal(a.Codes, b.Codes) && slices.Equal(a.At, b.At) && slices.Equal(a.Free, b.Free)
}

func isZeroFreed(f api.Freed) bool { return len(f.Codes) == 0 && len(f.At) == 0 && len(f.Free) == 0 }

func cloneFreed(f api.Freed) api.Freed {
	return api.Freed{Codes: slices.Clone(f.Codes), At: slices.Clone(f.At), Free: slices.Clone(f.Free)}
}

// holdPlay holds what Play tells against what it must.
func holdPlay(t *testing.T, name string, levels int, asks []api.Ask, want api.Freed) {
	t.Helper()
	if f, e := buddy.Play(levels, asks); e != api.OK || !equalFreed(f, want) {
		t.Fatalf("%s: Play(%d, %v): %v %d, want %v", name, levels, asks, f, e, want)
	}
}

// dice throws the same numbers each time.
type dice uint64

func (d *dice) below(n int) int {
	*d = *d*6364136223846793005 + 1442695040888963407
	return int(uint64(*d>>33) % uint64(n))
}

// slow does word by word what is asked, and splits and joins nothing: as buddies that are free are always one piece, the free pieces are the largest ones of which all words are free.
type slow struct {
	owner []int // for each word the place at which it was taken, or -1, if it is free
}

func newSlow(levels int) *slow { return &slow{owner: slices.Repeat(places(-1), 1<<levels)} }

// pieces tells the largest pieces, within the one at a place, of which all words are free, by place.
func (s *slow) pieces(at, size int) []api.Block {
	words := s.owner[at : at+size]
	switch {
	case !slices.ContainsFunc(words, func(o int) bool { return o >= 0 }):
		return blocks([2]int{at, size})
	case size == 1:
		return nil
	}
	return slices.Concat(s.pieces(at, size/2), s.pieces(at+size/2, size/2))
}

func (s *slow) all() []api.Block { return s.pieces(0, len(s.owner)) }

// needs tells the size of the least piece that has n words.
func needs(n int) int {
	size := 1
	for size < n {
		size *= 2
	}
	return size
}

func (s *slow) ask(a api.Ask) (int, api.Errno) {
	switch {
	case a.Kind == api.FTake && (a.N < 1 || a.N > len(s.owner)):
		return 0, api.ErrRange
	case a.Kind == api.FTake:
		some := slices.DeleteFunc(s.all(), func(b api.Block) bool { return b.Len < a.N })
		if len(some) == 0 {
			return 0, api.ErrFull
		}
		slices.SortStableFunc(some, func(a, b api.Block) int { return a.Len - b.Len })
		at := some[0].At
		for i := range needs(a.N) {
			s.owner[at+i] = at
		}
		return at, api.OK
	case a.Kind == api.FGive && (a.N < 0 || !slices.Contains(s.owner, a.N)):
		return 0, api.ErrArg
	case a.Kind == api.FGive:
		for i, o := range s.owner {
			if o == a.N {
				s.owner[i] = -1
			}
		}
		return 0, api.OK
	}
	return 0, api.ErrKind
}

func slowPlay(levels int, asks []api.Ask) (f api.Freed) {
	s := newSlow(levels)
	for _, a := range asks {
		at, e := s.ask(a)
		f.Codes, f.At = append(f.Codes, e), append(f.At, at)
	}
	f.Free = s.all()
	return f
}

// play throws levels and a script of asks, most of which can be met while there is room.
func (d *dice) play() (levels int, asks []api.Ask) {
	levels = d.below(api.MaxLevels + 1)
	size := 1 << levels
	most, chance := 1+d.below(1+size/(1+d.below(20))), 1+d.below(5)
	s := newSlow(levels)
	for range d.below(api.MaxScript + 1) {
		a := d.ask(s, most, chance)
		s.ask(a)
		asks = append(asks, a)
	}
	return levels, asks
}

// ask throws a wrong ask now and then, else with this chance out of eight one that gives back what is taken, else one that takes at most so many words.
func (d *dice) ask(s *slow, most, chance int) api.Ask {
	size := len(s.owner)
	switch {
	case d.below(20) == 0:
		return api.Ask{Kind: d.below(5) - 1, N: d.below(size+4) - 2}
	case d.below(8) < chance:
		// A word that is taken tells by its owner what can be given back.
		for range 10 {
			if o := s.owner[d.below(size)]; o >= 0 {
				return give(o)
			}
		}
	}
	return take(1 + d.below(most))
}

// someAsks has all asks that tell anything in a space of so many words, and some that are wrong.
func someAsks(size int) []api.Ask {
	asks := script(api.Ask{}, take(0), take(size+1), give(-1))
	for n := range size {
		asks = append(asks, take(n+1), give(n))
	}
	return asks
}

// smallScripts goes through all scripts of at most so many asks out of some. What is told of one is not to be kept.
func smallScripts(some []api.Ask, most int) iter.Seq[[]api.Ask] {
	return func(yield func([]api.Ask) bool) {
		var grow func(list []api.Ask) bool
		grow = func(list []api.Ask) bool {
			if !yield(list) {
				return false
			}
			for _, a := range some {
				if len(list) < most && !grow(append(list, a)) {
					return false
				}
			}
			return true
		}
		grow(make([]api.Ask, 0, most))
	}
}
