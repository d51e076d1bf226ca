package words_test

import (
	"math"
	"testing"

	"ragpicker/api"
	"ragpicker/words"
)

// dice throws the same numbers each time.
type dice uint64

func (d *dice) word() uint64 {
	var w uint64
	for range 2 {
		*d = *d*6364136223846793005 + 1442695040888963407
		w = w<<32 | uint64(*d>>32)
	}
	return w
}

// sampleNumbers has all small numbers, those close to each power of two and to the ends, and others, as they fall, of each length.
func sampleNumbers() []int64 {
	var list []int64
	around := func(n int64) {
		for by := range int64(9) {
			list = append(list, n+by-4)
		}
	}
	for n := range int64(4096) {
		list = append(list, n, -n)
	}
	for place := range 64 {
		around(1 << place)
		around(-1 << place)
	}
	around(math.MaxInt64)
	around(math.MinInt64)
	d := dice(1)
	for n := range 20000 {
		list = append(list, int64(d.word())>>(n%64))
	}
	return list
}

func TestNoWordIsAnothers(t *testing.T) {
	seen := map[uint64]api.Value{}
	for _, n := range sampleNumbers() {
		for _, v := range []api.Value{num(n), ref(n)} {
			w, e := words.Pack(v)
			if e != api.OK {
				continue
			}
			if other, is := seen[w]; is && other != v {
				t.Fatalf("%v and %v have one word, %#x", v, other, w)
			}
			seen[w] = v
		}
	}
}

func TestAnswersHangOnArgumentsAlone(t *testing.T) {
	type told struct {
		pack, head     uint64
		value          api.Value
		header         api.Header
		ep, eu, eh, en api.Errno
	}
	ask := func(n int64) (a told) {
		w := uint64(n)
		a.pack, a.ep = words.Pack(api.Value{Ref: n%3 == 0, N: n})
		a.value, a.eu = words.Unpack(w)
		a.head, a.eh = words.Head(api.Header{Len: int(n % 6), Mark: n%2 == 0, Age: int(n % 9)})
		a.header, a.en = words.Unhead(0xA5<<56 | w&0xFFF)
		return a
	}
	list := sampleNumbers()
	first := make([]told, len(list))
	for i, n := range list {
		first[i] = ask(n)
	}
	for i := len(list) - 1; i >= 0; i-- {
		if again := ask(list[i]); again != first[i] {
			t.Fatalf("of %d: %v, then %v", list[i], first[i], again)
		}
	}
}
