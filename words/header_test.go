package words_test

import (
	"iter"
	"math"
	"testing"

	"ragpicker/api"
	"ragpicker/words"
)

func TestHeadersAndTheirWords(t *testing.T) {
	cases := []struct {
		name string
		h    api.Header
		w    uint64
	}{
		{"all parts at their least", api.Header{}, 0xA500000000000000},
		{"one field", api.Header{Len: 1}, 0xA500000000000001},
		{"as many fields as may be", api.Header{Len: api.MaxFields}, 0xA500000000000004},
		{"marked", api.Header{Mark: true}, 0xA500000000000100},
		{"the least age but none", api.Header{Age: 1}, 0xA500000000000200},
		{"an age in the middle", api.Header{Age: 4}, 0xA500000000000800},
		{"the greatest age", api.Header{Age: api.MaxAge}, 0xA500000000000E00},
		{"some of each", api.Header{Len: 2, Mark: true, Age: 7}, 0xA500000000000F02},
		{"fields and an age", api.Header{Len: 3, Age: 5}, 0xA500000000000A03},
		{"all parts at their greatest", api.Header{Len: api.MaxFields, Mark: true, Age: api.MaxAge}, 0xA500000000000F04},
	}
	for _, c := range cases {
		if w, e := words.Head(c.h); e != api.OK || w != c.w {
			t.Errorf("%s: Head %#x %d, want %#x", c.name, w, e, c.w)
		}
		if h, e := words.Unhead(c.w); e != api.OK || h != c.h {
			t.Errorf("%s: Unhead %v %d, want %v", c.name, h, e, c.h)
		}
	}
}

func TestHeadersThatMayNotBe(t *testing.T) {
	far := []int{-1, -2, -8, -256, 16, 255, 256, 257, 1 << 12, 1 << 32, 1<<32 + 1, 1 << 56, math.MaxInt, math.MinInt, math.MinInt + 1}
	lens := append([]int{api.MaxFields + 1, api.MaxFields + 2}, far...)
	ages := append([]int{api.MaxAge + 1, api.MaxAge + 2}, far...)
	var list []api.Header
	for _, n := range lens {
		list = append(list, api.Header{Len: n}, api.Header{Len: n, Mark: true, Age: api.MaxAge})
		for _, age := range ages {
			list = append(list, api.Header{Len: n, Age: age})
		}
	}
	for _, age := range ages {
		list = append(list, api.Header{Age: age}, api.Header{Len: api.MaxFields, Mark: true, Age: age})
	}
	for _, h := range list {
		if w, e := words.Head(h); e != api.ErrRange || w != 0 {
			t.Errorf("Head of %v: %#x %d, want %d alone", h, w, e, api.ErrRange)
		}
	}
}

// headers goes through all headers that there are.
func headers() iter.Seq[api.Header] {
	return func(yield func(api.Header) bool) {
		for n := range 5 * 2 * 8 {
			if !yield(api.Header{Len: n % 5, Mark: n/5%2 == 1, Age: n / 10}) {
				return
			}
		}
	}
}

// headerWords has all headers by their words, as D2 puts the parts together.
func headerWords() map[uint64]api.Header {
	all := map[uint64]api.Header{}
	for h := range headers() {
		w := uint64(0xA5) << 44 // those that are not set
		w = w<<3 + uint64(h.Age)
		w <<= 1
		if h.Mark {
			w++
		}
		all[w<<8+uint64(h.Len)] = h
	}
	return all
}

// checkUnhead holds what Unhead tells of w against the words that all headers have.
func checkUnhead(t *testing.T, all map[uint64]api.Header, w uint64) {
	t.Helper()
	want, is := all[w]
	wrong := api.ErrForm
	if is {
		wrong = api.OK
	}
	if h, e := words.Unhead(w); e != wrong || h != want {
		t.Fatalf("Unhead of %#x: %v %d, want %v %d", w, h, e, want, wrong)
	}
}

func TestAllHeaders(t *testing.T) {
	all := headerWords()
	if len(all) != 80 {
		t.Fatalf("%d headers have words of their own, want 80", len(all))
	}
	for want, h := range all {
		if w, e := words.Head(h); e != api.OK || w != want {
			t.Errorf("Head of %v: %#x %d, want %#x", h, w, e, want)
		}
		checkUnhead(t, all, want)
	}
}

func TestHeadersWithWrongBits(t *testing.T) {
	all := headerWords()
	for w := range all {
		for a := range 64 {
			for b := range 64 {
				// One bit is another one where both places are the same, and two, else.
				checkUnhead(t, all, w^(uint64(1)<<a|uint64(1)<<b))
			}
		}
	}
}

func TestWordsOfNoHeader(t *testing.T) {
	all := headerWords()
	for tag := range uint64(256) {
		for low := range uint64(1 << 14) {
			checkUnhead(t, all, tag<<56|low)
		}
	}
	for _, n := range sampleNumbers() {
		checkUnhead(t, all, uint64(n))
		checkUnhead(t, all, 0xA5<<56|uint64(n)>>8)
	}
}
