package words_test

import (
	"math"
	"math/big"
	"testing"

	"ragpicker/api"
	"ragpicker/words"
)

func num(n int64) api.Value { return api.Value{N: n} }

func ref(n int64) api.Value { return api.Value{Ref: true, N: n} }

func TestValuesAndTheirWords(t *testing.T) {
	cases := []struct {
		name string
		v    api.Value
		w    uint64
	}{
		{"the chapter's example", num(-1), 0xFFFFFFFFFFFFFFFF},
		{"the number 0", num(0), 1},
		{"the number 1", num(1), 3},
		{"the number 5", num(5), 11},
		{"the number -2", num(-2), 0xFFFFFFFFFFFFFFFD},
		{"a number that would be no reference", num(api.MaxWords), 513},
		{"a number of more than 32 bits", num(1 << 40), 1<<41 + 1},
		{"a number below 0 of more than 32 bits", num(-1 << 40), 0xFFFFFE0000000001},
		{"the least number", num(api.MinInt), 0x8000000000000001},
		{"the least number but one", num(api.MinInt + 1), 0x8000000000000003},
		{"the greatest number", num(api.MaxInt), 0x7FFFFFFFFFFFFFFF},
		{"the greatest number but one", num(api.MaxInt - 1), 0x7FFFFFFFFFFFFFFD},
		{"the least reference", ref(0), 0},
		{"the reference 1", ref(1), 2},
		{"the reference 4", ref(4), 8},
		{"the greatest reference but one", ref(api.MaxWords - 2), 508},
		{"the greatest reference", ref(api.MaxWords - 1), 510},
	}
	for _, c := range cases {
		if w, e := words.Pack(c.v); e != api.OK || w != c.w {
			t.Errorf("%s: Pack %#x %d, want %#x", c.name, w, e, c.w)
		}
		if v, e := words.Unpack(c.w); e != api.OK || v != c.v {
			t.Errorf("%s: Unpack %v %d, want %v", c.name, v, e, c.v)
		}
	}
}

func TestValuesThatMayNotBe(t *testing.T) {
	cases := []struct {
		v    api.Value
		want api.Errno
	}{
		{num(api.MinInt - 1), api.ErrRange},
		{num(api.MinInt - 2), api.ErrRange},
		{num(math.MinInt64), api.ErrRange},
		{num(math.MinInt64 + 1), api.ErrRange},
		{num(api.MaxInt + 1), api.ErrRange},
		{num(api.MaxInt + 2), api.ErrRange},
		{num(math.MaxInt64), api.ErrRange},
		{ref(-1), api.ErrArg},
		{ref(-2), api.ErrArg},
		{ref(-api.MaxWords), api.ErrArg},
		{ref(api.MinInt), api.ErrArg},
		{ref(api.MinInt - 1), api.ErrArg},
		{ref(math.MinInt64), api.ErrArg},
		{ref(api.MaxWords), api.ErrArg},
		{ref(api.MaxWords + 1), api.ErrArg},
		{ref(1 << 24), api.ErrArg},
		{ref(1 << 32), api.ErrArg},
		{ref(api.MaxInt), api.ErrArg},
		{ref(api.MaxInt + 1), api.ErrArg},
		{ref(math.MaxInt64), api.ErrArg},
	}
	for _, c := range cases {
		if w, e := words.Pack(c.v); e != c.want || w != 0 {
			t.Errorf("Pack of %v: %#x %d, want %d alone", c.v, w, e, c.want)
		}
	}
}

func TestWordsOfNoValue(t *testing.T) {
	list := []uint64{2 * api.MaxWords, 2*api.MaxWords + 2, 1 << 16, 1 << 32, 1<<32 + 8, 1 << 62, 1<<63 - 2, 1 << 63, 1<<63 + 8, math.MaxUint64 - 1}
	for n := range 64 {
		if w := uint64(1) << n; w >= 2*api.MaxWords {
			list = append(list, w, w|8, w|(2*api.MaxWords-2))
		}
	}
	for _, w := range list {
		if v, e := words.Unpack(w); e != api.ErrArg || v != (api.Value{}) {
			t.Errorf("Unpack of %#x: %v %d, want %d alone", w, v, e, api.ErrArg)
		}
	}
}

// wordOf tells by D1's words what Pack must, by numbers without a bound.
func wordOf(v api.Value) (uint64, api.Errno) {
	switch {
	case v.Ref && (v.N < 0 || v.N > 255):
		return 0, api.ErrArg
	case !v.Ref && (v.N < -(1<<62) || v.N > 1<<62-1):
		return 0, api.ErrRange
	}
	w := new(big.Int).Mul(big.NewInt(2), big.NewInt(v.N))
	if !v.Ref {
		w.Add(w, big.NewInt(1))
	}
	all := new(big.Int).Lsh(big.NewInt(1), 64)
	return w.Mod(w, all).Uint64(), api.OK
}

func TestManyValues(t *testing.T) {
	for _, n := range sampleNumbers() {
		for _, v := range []api.Value{num(n), ref(n)} {
			want, wrong := wordOf(v)
			w, e := words.Pack(v)
			if e != wrong || w != want {
				t.Fatalf("Pack of %v: %#x %d, want %#x %d", v, w, e, want, wrong)
			}
			if e != api.OK {
				continue
			}
			if back, e := words.Unpack(w); e != api.OK || back != v {
				t.Fatalf("Unpack of %v's word: %v %d", v, back, e)
			}
		}
	}
}

func TestManyWords(t *testing.T) {
	for _, n := range sampleNumbers() {
		w := uint64(n)
		v, e := words.Unpack(w)
		if w%2 == 0 && w >= 512 {
			if e != api.ErrArg || v != (api.Value{}) {
				t.Fatalf("Unpack of %#x: %v %d, want %d alone", w, v, e, api.ErrArg)
			}
			continue
		}
		if back, wrong := wordOf(v); e != api.OK || wrong != api.OK || back != w {
			t.Fatalf("Unpack of %#x: %v %d", w, v, e)
		}
	}
}
