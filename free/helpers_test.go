package free_test

import (
	"iter"
	"slices"
	"testing"

	"ragpicker/api"
	"ragpicker/free"
)

func take(n int) api.Ask { return api.Ask{Kind: api.FTake, N: n} }

func give(at int) api.Ask { return api.Ask{Kind: api.FGive, N: at} }

func script(list ...api.Ask) []api.Ask { return list }

func places(list ...int) []int { return list }

func codes(list ...api.Errno) []api.Errno { return list }

// fine has as many codes that tell of no error.
func fine(n int) []api.Errno { return make([]api.Errno, n) }

// blocks has pairs of a place and a length.
func blocks(pairs ...[2]int) (list []api.Block) {
	for _, p := range pairs {
		list = append(list, api.Block{At: p[0], Len: p[1]})
	}
	return list
}

func equalFreed(a, b api.Freed) bool {
	return slices.Equal(a.Codes, b.Codes) && slices.Equal(a.At, b.At) && slices.Equal(a.Free, b.Free)
}

func isZeroFreed(f api.Freed) bool { return len(f.Codes) == 0 && len(f.At) == 0 && len(f.Free) == 0 }

func cloneFreed(f api.Freed) api.Freed {
	return api.Freed{Codes: slices.Clone(f.Codes), At: slices.Clone(f.At), Free: slices.Clone(f.Free)}
}

// policies has all four.
var policies = []int{api.ByFirst, api.ByBest, api.ByNext, api.ByWorst}

// holdPlay holds what Play tells against what it must.
func holdPlay(t *testing.T, name string, size, policy int, asks []api.Ask, want api.Freed) {
	t.Helper()
	if f, e := free.Play(size, policy, asks); e != api.OK || !equalFreed(f, want) {
		t.Fatalf("%s: Play(%d, %d, %v): %v %d, want %v", name, size, policy, asks, f, e, want)
	}
}

// dice throws the same numbers each time.
type dice uint64

func (d *dice) below(n int) int {
	*d = *d*6364136223846793005 + 1442695040888963407
	return int(uint64(*d>>33) % uint64(n))
}

// slow does by H2's words what is asked, word by word.
type slow struct {
	policy int
	owner  []int // for each word the place at which it was taken, or -1, if it is free
	end    int
}

func newSlow(size, policy int) *slow {
	return &slow{policy: policy, owner: slices.Repeat(places(-1), size)}
}

// runs tells all blocks of words that are owned by nobody.
func runs(owner []int) (list []api.Block) {
	for at, o := range owner {
		switch {
		case o >= 0:
		case at > 0 && owner[at-1] < 0:
			list[len(list)-1].Len++
		default:
			list = append(list, api.Block{At: at, Len: 1})
		}
	}
	return list
}

// which tells the block that is taken from, of some that have as many words.
func (s *slow) which(some []api.Block) api.Block {
	switch s.policy {
	case api.ByBest:
		slices.SortStableFunc(some, func(a, b api.Block) int { return a.Len - b.Len })
	case api.ByWorst:
		slices.SortStableFunc(some, func(a, b api.Block) int { return b.Len - a.Len })
	case api.ByNext:
		for _, b := range some {
			if b.At >= s.end {
				return b
			}
		}
	}
	return some[0]
}

func (s *slow) ask(a api.Ask) (int, api.Errno) {
	switch {
	case a.Kind == api.FTake && (a.N < 1 || a.N > len(s.owner)):
		return 0, api.ErrRange
	case a.Kind == api.FTake:
		some := slices.DeleteFunc(runs(s.owner), func(b api.Block) bool { return b.Len < a.N })
		if len(some) == 0 {
			return 0, api.ErrFull
		}
		at := s.which(some).At
		for i := range a.N {
			s.owner[at+i] = at
		}
		s.end = at + a.N
		return at, api.OK
	case a.Kind == api.FGive && (a.N < 0 || !slices.Contains(s.owner, a.N)):
		return 0, api.ErrArg
	case a.Kind == api.FGive:
		for i, o := range s.owner {
			if o == a.N {
				s.owner[i] = -1
			}
		}
		return 0, api.OK
	}
	return 0, api.ErrKind
}

func slowPlay(size, policy int, asks []api.Ask) (f api.Freed) {
	s := newSlow(size, policy)
	for _, a := range asks {
		at, e := s.ask(a)
		f.Codes, f.At = append(f.Codes, e), append(f.At, at)
	}
	f.Free = runs(s.owner)
	return f
}

// play throws a size, a policy and a script of asks, most of which can be met while there is room.
func (d *dice) play() (size, policy int, asks []api.Ask) {
	size = 1 + d.below(api.MaxWords)
	if d.below(3) == 0 {
		size = 1 + d.below(20)
	}
	policy = policies[d.below(len(policies))]
	most, chance := 1+d.below(1+size/(1+d.below(20))), 1+d.below(5)
	s := newSlow(size, policy)
	for range d.below(api.MaxScript + 1) {
		a := d.ask(s, most, chance)
		s.ask(a)
		asks = append(asks, a)
	}
	return size, policy, asks
}

// ask throws a wrong ask now and then, else with this chance out of eight one that gives back what is taken, else one that takes at most so many words.
func (d *dice) ask(s *slow, most, chance int) api.Ask {
	size := len(s.owner)
	switch {
	case d.below(20) == 0:
		return api.Ask{Kind: d.below(5) - 1, N: d.below(size+4) - 2}
	case d.below(8) < chance:
		// A word that is taken tells by its owner what can be given back.
		for range 10 {
			if o := s.owner[d.below(size)]; o >= 0 {
				return give(o)
			}
		}
	}
	return take(1 + d.below(most))
}

// someAsks has all asks that tell anything in a space of so many words, and some that are wrong.
func someAsks(size int) []api.Ask {
	asks := script(api.Ask{}, take(0), take(size+1), give(-1))
	for n := range size {
		asks = append(asks, take(n+1), give(n))
	}
	return asks
}

// smallScripts goes through all scripts of at most so many asks out of some. What is told of one is not to be kept.
func smallScripts(some []api.Ask, most int) iter.Seq[[]api.Ask] {
	return func(yield func([]api.Ask) bool) {
		var grow func(list []api.Ask) bool
		grow = func(list []api.Ask) bool {
			if !yield(list) {
				return false
			}
			for _, a := range some {
				if len(list) < most && !grow(append(list, a)) {
					return false
				}
			}
			return true
		}
		grow(make([]api.Ask, 0, most))
	}
}
