package mark

import (
	"testing"

	"ragpicker/api"
)

// nest has MaxWords words: objects with three fields, of which the first one refers to the next object and the others to the last but one and to the first.
func nest() api.Arena {
	const head = api.Tag<<56 | 3
	const last = api.MaxWords - 4
	a := api.Arena{Roots: []uint64{0, 2 * last}}
	for at := uint64(0); at < api.MaxWords; at += 4 {
		a.Words = append(a.Words, head, 2*min(at+4, last), 2*(last-4), 0)
	}
	return a
}

// TestRoomIsKept looks at the list of all places that a marker keeps: it grows beyond its first capacity, if more than room are put on it.
func TestRoomIsKept(t *testing.T) {
	const objects = api.MaxWords / 4
	for room := 1; room <= api.MaxRoom; room++ {
		m := newMarker(nest(), room)
		if cap(m.kept) != room {
			t.Fatalf("room %d: %d places may be kept", room, cap(m.kept))
		}
		m.markAll()
		if cap(m.kept) != room || len(m.kept) != 0 {
			t.Errorf("room %d: there is room for %d, and %d are left", room, cap(m.kept), len(m.kept))
		}
		n := 0
		each(m.Words, func(at int, h api.Header) {
			if h.Mark {
				n++
			}
		})
		if n != objects {
			t.Errorf("room %d: %d are marked, want %d", room, n, objects)
		}
	}
}

// TestRoomIsUsed: as long as the room lasts, nothing is lost.
func TestRoomIsUsed(t *testing.T) {
	const head = api.Tag<<56 | 1
	for deep := 1; deep <= api.MaxRoom; deep++ {
		a := api.Arena{Roots: []uint64{0}}
		for o := range uint64(deep) {
			a.Words = append(a.Words, head, 2*(2*(o+1)%uint64(2*deep)))
		}
		for room := 1; room <= api.MaxRoom; room++ {
			m := newMarker(a, room)
			m.take(0)
			m.climb()
			if m.lost != (room < deep) {
				t.Fatalf("%d objects, room %d: lost is %v", deep, room, m.lost)
			}
		}
	}
}
