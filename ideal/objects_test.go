package ideal

import (
	"testing"

	"ragpicker/api"
)

// TestNumbersOfObjects: nobody can tell them from outside, so they are asked of the memory itself.
func TestNumbersOfObjects(t *testing.T) {
	for given := range api.MaxObjects + 1 {
		list := make([]api.Object, given)
		for o := range list {
			list[o].Fields = []api.Value{{N: int64(o)}}
		}
		there := NewObjects(list)
		for o := range int64(given) {
			if v := there.Get(o, 0); v != (api.Value{N: o}) {
				t.Fatalf("of %d, the object %d has %v", given, o, v)
			}
		}
		for n := range int64(api.MaxScript) {
			fields := int(n % (api.MaxFields + 1))
			if o, e := there.Create(fields); e != api.OK || o != int64(given)+n || there.Size(o) != fields {
				t.Fatalf("behind %d, the new object %d has the number %d and %d fields", given, n, o, there.Size(o))
			}
		}
	}
}

// TestNumbersInRegisters: new ones come behind those of the graph, each by the next number, also where what is wrong comes between.
func TestNumbersInRegisters(t *testing.T) {
	m := NewMachine(NewObjects(make([]api.Object, 3)), nil)
	for n := range int64(10) {
		m.Do(api.Do{Kind: api.DNew, To: api.MaxRoots})
		m.Do(api.Do{Kind: api.DNew, N: api.MaxFields + 1})
		m.Do(api.Do{Kind: api.DNew, N: n % 3})
		if v := m.value(0); v != (api.Value{Ref: true, N: 3 + n}) {
			t.Fatalf("the new object %d: %v", n, v)
		}
	}
}
