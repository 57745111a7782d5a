package small

import (
	"math"
	"slices"
	"strconv"
	"testing"

	"spunyarn/api"
)

// rowOf is a row of that room, which New must give.
func rowOf[T any](t *testing.T, room int) *Row[T] {
	t.Helper()
	r, e := New[T](room)
	if e != api.OK || r == nil {
		t.Fatalf("New(%d): %v, %v", room, r, e)
	}
	return r
}

// filled is a row of that room that holds by each of the bytes ten times it.
func filled(t *testing.T, room int, bytes ...byte) *Row[int] {
	t.Helper()
	r := rowOf[int](t, room)
	for _, b := range bytes {
		if e := r.Set(b, 10*int(b)); e != api.OK {
			t.Fatalf("Set(%d): %v", b, e)
		}
	}
	return r
}

// held is the plainest thing that a row may be held against: an entry for each byte.
type held[T comparable] struct {
	room  int
	there [256]bool
	thing [256]T
}

func (h *held[T]) len() int {
	n := 0
	for _, is := range h.there {
		if is {
			n++
		}
	}
	return n
}

func (h *held[T]) set(b byte, x T) api.Errno {
	if !h.there[b] && h.len() == h.room {
		return api.ErrFull
	}
	h.there[b], h.thing[b] = true, x
	return api.OK
}

func (h *held[T]) drop(b byte) api.Errno {
	if !h.there[b] {
		return api.ErrNone
	}
	var none T
	h.there[b], h.thing[b] = false, none
	return api.OK
}

// beside is the first byte from from on that is held, by steps of step.
func (h *held[T]) beside(from, step int) (byte, T, bool) {
	for b := from; b >= 0 && b <= 255; b += step {
		if h.there[b] {
			return byte(b), h.thing[b], true
		}
	}
	var none T
	return 0, none, false
}

// check holds all that can be asked of r against h.
func check[T comparable](t *testing.T, r *Row[T], h *held[T]) {
	t.Helper()
	if r.Len() != h.len() || r.Room() != h.room {
		t.Fatalf("Len %d, Room %d, not %d, %d", r.Len(), r.Room(), h.len(), h.room)
	}
	for b := range 256 {
		if x, is := r.Get(byte(b)); x != h.thing[b] || is != h.there[b] {
			t.Fatalf("Get(%d): %v, %v, not %v, %v", b, x, is, h.thing[b], h.there[b])
		}
	}
	for _, from := range froms() {
		b, x, is := r.Next(from)
		wb, wx, wis := h.beside(max(from, 0), 1)
		if b != wb || x != wx || is != wis {
			t.Fatalf("Next(%d): %d, %v, %v, not %d, %v, %v", from, b, x, is, wb, wx, wis)
		}
		b, x, is = r.Prev(from)
		wb, wx, wis = h.beside(min(from, 255), -1)
		if b != wb || x != wx || is != wis {
			t.Fatalf("Prev(%d): %d, %v, %v, not %d, %v, %v", from, b, x, is, wb, wx, wis)
		}
	}
}

// froms are all numbers that bytes may be, and some that they may not.
func froms() []int {
	all := []int{math.MinInt, math.MinInt + 1, -1 << 32, -65536, -257, -256, -255, -2}
	for n := -1; n <= 257; n++ {
		all = append(all, n)
	}
	return append(all, 511, 512, 65535, 65536, 1<<32, 1<<32+7, math.MaxInt-1, math.MaxInt)
}

// rising are the bytes that Next goes through.
func rising[T any](r *Row[T]) []byte {
	var all []byte
	for from := 0; ; {
		b, _, is := r.Next(from)
		if !is {
			return all
		}
		all, from = append(all, b), int(b)+1
	}
}

// falling are the bytes that Prev goes through.
func falling[T any](r *Row[T]) []byte {
	var all []byte
	for from := 255; ; {
		b, _, is := r.Prev(from)
		if !is {
			return all
		}
		all, from = append(all, b), int(b)-1
	}
}

// orders are bytes in several orders.
func orders() [][]byte {
	return [][]byte{
		{0, 1, 2, 3, 4, 5, 6, 7, 8, 9, 10, 11, 12, 13, 14, 15},
		{255, 254, 253, 252, 251, 250, 249, 248, 247, 246, 245, 244, 243, 242, 241, 240},
		{128, 127, 129, 126, 130, 125, 131, 124, 132, 123, 133, 122, 134, 121, 135, 120},
		{255, 0, 254, 1, 128, 64, 192, 32, 96, 160, 224, 16, 48, 80, 112, 144},
		{0, 255},
		{7},
	}
}

// P9.1

func TestNewOfEachRoom(t *testing.T) {
	for room := 1; room <= 16; room++ {
		check(t, rowOf[int](t, room), &held[int]{room: room})
		check(t, rowOf[string](t, room), &held[string]{room: room})
	}
}

func TestNewOfOtherRooms(t *testing.T) {
	for _, room := range []int{0, 17, 18, 32, 48, 256, 257, 1<<32 + 4, math.MaxInt, -1, -4, -16, -256, math.MinInt} {
		if r, e := New[int](room); r != nil || e != api.ErrArg {
			t.Errorf("New(%d): %v, %v", room, r, e)
		}
	}
}

// Each room is filled in each order; what has no room any more is refused, and turns nothing.
func TestSetInAnyOrder(t *testing.T) {
	for room := 1; room <= 16; room++ {
		for _, bytes := range orders() {
			r, h := rowOf[int](t, room), &held[int]{room: room}
			for i, b := range bytes {
				want := api.OK
				if i >= room {
					want = api.ErrFull
				}
				if e := r.Set(b, i+100); e != want {
					t.Fatalf("room %d, %v: Set(%d): %v, not %v", room, bytes, b, e, want)
				}
				h.set(b, i+100)
				check(t, r, h)
			}
		}
	}
}

func TestSetInPlace(t *testing.T) {
	for _, bytes := range orders() {
		for _, room := range []int{len(bytes), 16} {
			r, h := filled(t, room, bytes...), &held[int]{room: room}
			for _, b := range bytes {
				h.set(b, 10*int(b))
			}
			for i, b := range bytes {
				for _, x := range []int{-i, 0, 1000 + i} {
					if e := r.Set(b, x); e != api.OK {
						t.Fatalf("room %d: Set(%d) of one that is held: %v", room, b, e)
					}
					h.set(b, x)
					check(t, r, h)
				}
			}
		}
	}
}

// A full row takes what it holds already, and no other byte.
func TestFullRow(t *testing.T) {
	for room := 1; room <= 16; room++ {
		r, h := rowOf[int](t, room), &held[int]{room: room}
		for i := range room {
			r.Set(byte(17*i), i)
			h.set(byte(17*i), i)
		}
		for b := range 256 {
			want := api.ErrFull
			if b%17 == 0 && b/17 < room {
				want = api.OK
			}
			if e := r.Set(byte(b), b+1000); e != want {
				t.Fatalf("room %d: Set(%d): %v, not %v", room, b, e, want)
			}
			h.set(byte(b), b+1000)
		}
		check(t, r, h)
	}
}

func TestRoomThatIsLeftIsUsed(t *testing.T) {
	for room := 1; room <= 16; room++ {
		r, h := rowOf[int](t, room), &held[int]{room: room}
		for i := range room {
			r.Set(byte(3*i), i)
			h.set(byte(3*i), i)
		}
		for i := range room {
			if e := r.Drop(byte(3 * i)); e != api.OK {
				t.Fatalf("room %d: Drop(%d): %v", room, 3*i, e)
			}
			h.drop(byte(3 * i))
			check(t, r, h)
			if e := r.Set(byte(255-i), i); e != api.OK {
				t.Fatalf("room %d: Set(%d): %v", room, 255-i, e)
			}
			h.set(byte(255-i), i)
			check(t, r, h)
			if e := r.Set(100, i); e != api.ErrFull {
				t.Fatalf("room %d: Set(100): %v", room, e)
			}
		}
	}
}

func TestDropInAnyOrder(t *testing.T) {
	for _, bytes := range orders() {
		for _, gone := range orders() {
			r, h := filled(t, 16, bytes...), &held[int]{room: 16}
			for _, b := range bytes {
				h.set(b, 10*int(b))
			}
			for _, b := range slices.Concat(gone, bytes) {
				want := h.drop(b)
				if e := r.Drop(b); e != want {
					t.Fatalf("%v: Drop(%d): %v, not %v", bytes, b, e, want)
				}
				check(t, r, h)
			}
			if r.Len() != 0 {
				t.Fatalf("%v: %d are left", bytes, r.Len())
			}
		}
	}
}

func TestDropOfWhatIsNotHeld(t *testing.T) {
	for _, bytes := range [][]byte{nil, {0}, {255}, {1, 254}, {0, 255}, {5, 6, 8}} {
		r, h := filled(t, 4, bytes...), &held[int]{room: 4}
		for _, b := range bytes {
			h.set(b, 10*int(b))
		}
		for b := range 256 {
			if h.there[b] {
				continue
			}
			if e := r.Drop(byte(b)); e != api.ErrNone {
				t.Fatalf("%v: Drop(%d): %v", bytes, b, e)
			}
		}
		check(t, r, h)
	}
}

func TestDropTwice(t *testing.T) {
	r := filled(t, 4, 0, 255)
	for _, b := range []byte{0, 255} {
		if e := r.Drop(b); e != api.OK {
			t.Errorf("Drop(%d): %v", b, e)
		}
		if e := r.Drop(b); e != api.ErrNone {
			t.Errorf("Drop(%d), then: %v", b, e)
		}
	}
	check(t, r, &held[int]{room: 4})
}

// P9.2

func TestExample(t *testing.T) {
	r := filled(t, 1, 7)
	if e := r.Set(8, 1); e != api.ErrFull {
		t.Error("Set of 8:", e)
	}
	if x, is := r.Get(7); x != 70 || !is {
		t.Error("Get of 7:", x, is)
	}
	if x, is := r.Get(8); x != 0 || is {
		t.Error("Get of 8:", x, is)
	}
}

func TestNextPrev(t *testing.T) {
	r := filled(t, 4, 250, 3, 9)
	for _, c := range []struct {
		from       int
		next, prev int // below 0: none
	}{
		{math.MinInt, 3, -1},
		{-1, 3, -1},
		{0, 3, -1},
		{2, 3, -1},
		{3, 3, 3},
		{4, 9, 3},
		{8, 9, 3},
		{9, 9, 9},
		{10, 250, 9},
		{249, 250, 9},
		{250, 250, 250},
		{251, -1, 250},
		{255, -1, 250},
		{256, -1, 250},
		{256 + 3, -1, 250},
		{math.MaxInt, -1, 250},
	} {
		if b, x, is := r.Next(c.from); !told(b, x, is, c.next) {
			t.Errorf("Next(%d): %d, %d, %v", c.from, b, x, is)
		}
		if b, x, is := r.Prev(c.from); !told(b, x, is, c.prev) {
			t.Errorf("Prev(%d): %d, %d, %v", c.from, b, x, is)
		}
	}
}

// told tells whether that is the answer of want in a row that filled gave, or the one of none.
func told(b byte, x int, is bool, want int) bool {
	if want < 0 {
		return b == 0 && x == 0 && !is
	}
	return int(b) == want && x == 10*want && is
}

func TestLeastAndGreatestByte(t *testing.T) {
	r := filled(t, 2, 255, 0)
	for _, c := range []struct{ from, next, prev int }{
		{-1, 0, -1}, {0, 0, 0}, {1, 255, 0}, {254, 255, 0}, {255, 255, 255}, {256, -1, 255},
	} {
		if b, x, is := r.Next(c.from); !told(b, x, is, c.next) {
			t.Errorf("Next(%d): %d, %d, %v", c.from, b, x, is)
		}
		if b, x, is := r.Prev(c.from); !told(b, x, is, c.prev) {
			t.Errorf("Prev(%d): %d, %d, %v", c.from, b, x, is)
		}
	}
	if x, is := r.Get(255); x != 2550 || !is {
		t.Error("Get(255):", x, is)
	}
	if x, is := r.Get(0); x != 0 || !is {
		t.Error("Get(0):", x, is)
	}
}

// A thing that is a zero value is held like others.
func TestZeroThings(t *testing.T) {
	r := rowOf[int](t, 4)
	r.Set(0, 0)
	if x, is := r.Get(0); x != 0 || !is || r.Len() != 1 {
		t.Error(x, is, r.Len())
	}
	if b, x, is := r.Next(0); b != 0 || x != 0 || !is {
		t.Error(b, x, is)
	}
	if b, x, is := r.Prev(255); b != 0 || x != 0 || !is {
		t.Error(b, x, is)
	}
}

// many does steps steps of a fixed row of numbers with a row of that room, and holds it against the plain one behind each.
func many[T comparable](t *testing.T, room, steps int, thing func(int) T) {
	t.Helper()
	r, h := rowOf[T](t, room), &held[T]{room: room}
	state := uint32(room)
	for i := range steps {
		state = state*1664525 + 1013904223
		b := byte(state >> 24)
		if state>>20&3 != 0 { // mostly from among few, so that things are met again
			b = b & 15 * 17
		}
		if state>>16&7 < 5 {
			x := thing(i)
			if e, want := r.Set(b, x), h.set(b, x); e != want {
				t.Fatalf("room %d, step %d: Set(%d): %v, not %v", room, i, b, e, want)
			}
		} else if e, want := r.Drop(b), h.drop(b); e != want {
			t.Fatalf("room %d, step %d: Drop(%d): %v, not %v", room, i, b, e, want)
		}
		check(t, r, h)
	}
}

func TestManySteps(t *testing.T) {
	type pair struct {
		name string
		n    [2]int
	}
	for room := 1; room <= 16; room++ {
		many(t, room, 300, func(i int) int { return i })
		many(t, room, 100, func(i int) string { return strconv.Itoa(i) })
		many(t, room, 100, func(i int) pair { return pair{strconv.Itoa(i), [2]int{i, -i}} })
		many(t, room, 100, func(i int) *int { return &i })
		many(t, room, 50, func(i int) bool { return i%2 == 0 })
		many(t, room, 50, func(i int) struct{} { return struct{}{} })
	}
}

// Things that cannot be held against each other are held too.
func TestOtherThings(t *testing.T) {
	lists := rowOf[[]byte](t, 4)
	lists.Set(9, []byte{1, 2})
	lists.Set(4, nil)
	if x, is := lists.Get(9); !slices.Equal(x, []byte{1, 2}) || !is {
		t.Error(x, is)
	}
	if x, is := lists.Get(4); x != nil || !is {
		t.Error(x, is)
	}
	functions := rowOf[func() int](t, 4)
	functions.Set(1, func() int { return 5 })
	if x, is := functions.Get(1); !is || x() != 5 {
		t.Error(is)
	}
	if x, is := functions.Get(2); x != nil || is {
		t.Error(is)
	}
	rows := rowOf[*Row[int]](t, 4)
	rows.Set(1, filled(t, 4, 7))
	if x, is := rows.Get(1); !is || x.Len() != 1 {
		t.Error(is)
	}
}

func TestRowsAreApart(t *testing.T) {
	a, b := filled(t, 4, 1, 2), filled(t, 4, 1, 3)
	a.Set(1, 99)
	a.Drop(2)
	if x, _ := b.Get(1); x != 10 || b.Len() != 2 {
		t.Error(x, b.Len())
	}
}

func TestNobodys(t *testing.T) {
	nobodys[int](t, 5)
	nobodys[string](t, "a")
	nobodys[struct{ a, b int }](t, struct{ a, b int }{1, 2})
	nobodys[*int](t, new(int))
}

func nobodys[T comparable](t *testing.T, x T) {
	t.Helper()
	var zero Row[T]
	for _, r := range []*Row[T]{nil, &zero, new(Row[T]), {}} {
		for range 2 { // what was refused turned nothing
			for _, b := range []byte{0, 7, 255} {
				if e := r.Set(b, x); e != api.ErrNil {
					t.Errorf("Set(%d): %v", b, e)
				}
				if e := r.Drop(b); e != api.ErrNil {
					t.Errorf("Drop(%d): %v", b, e)
				}
			}
			check(t, r, &held[T]{})
			if c := r.Copy(); c != nil {
				t.Error("Copy:", c)
			}
		}
	}
}

// P9.3

func TestGoneThroughBothWays(t *testing.T) {
	for _, bytes := range orders() {
		for n := range len(bytes) + 1 {
			r := filled(t, 16, bytes[:n]...)
			want := slices.Sorted(slices.Values(bytes[:n]))
			if got := rising(r); !slices.Equal(got, want) {
				t.Errorf("by Next: %v, not %v", got, want)
			}
			slices.Reverse(want)
			if got := falling(r); !slices.Equal(got, want) {
				t.Errorf("by Prev: %v, not %v", got, want)
			}
			for _, b := range want {
				if nb, x, is := r.Next(int(b)); !told(nb, x, is, int(b)) {
					t.Errorf("Next(%d): %d, %d, %v", b, nb, x, is)
				}
			}
		}
	}
}

func TestNothingToGoThrough(t *testing.T) {
	fresh, left := rowOf[int](t, 4), filled(t, 4, 0, 9, 255)
	for _, b := range []byte{9, 0, 255} {
		left.Drop(b)
	}
	for _, r := range []*Row[int]{fresh, left} {
		if got := rising(r); len(got) != 0 {
			t.Error("by Next:", got)
		}
		if got := falling(r); len(got) != 0 {
			t.Error("by Prev:", got)
		}
		check(t, r, &held[int]{room: 4})
	}
}

// P9.4

func TestCopyIsTheSame(t *testing.T) {
	for room := 1; room <= 16; room++ {
		r, h := rowOf[int](t, room), &held[int]{room: room}
		for n := 0; ; n++ {
			c := r.Copy()
			if c == nil || c == r {
				t.Fatalf("room %d: Copy of %d: %p of %p", room, n, c, r)
			}
			check(t, c, h)
			check(t, r, h)
			if n == room {
				break
			}
			r.Set(byte(255-15*n), n)
			h.set(byte(255-15*n), n)
		}
	}
}

// turn does all that turns a row, with it and with the plain one.
func turn(t *testing.T, r *Row[int], h *held[int]) {
	t.Helper()
	for _, b := range []byte{200, 0, 3, 255, 9} {
		if e, want := r.Set(b, 7777), h.set(b, 7777); e != want {
			t.Fatalf("Set(%d): %v, not %v", b, e, want)
		}
		check(t, r, h)
	}
	for _, b := range []byte{0, 3, 100} {
		if e, want := r.Drop(b), h.drop(b); e != want {
			t.Fatalf("Drop(%d): %v, not %v", b, e, want)
		}
		check(t, r, h)
	}
	r.Set(1, 8888)
	h.set(1, 8888)
	check(t, r, h)
}

func TestCopiesAreApart(t *testing.T) {
	for _, room := range []int{3, 4, 16} {
		for _, bytes := range [][]byte{nil, {3}, {0, 255}, {0, 3, 9}} {
			r, h := filled(t, room, bytes...), &held[int]{room: room}
			for _, b := range bytes {
				h.set(b, 10*int(b))
			}
			first, second, was := r.Copy(), r.Copy(), *h
			of := first.Copy()

			turned := was
			turn(t, first, &turned)
			check(t, r, &was)
			check(t, second, &was)
			check(t, of, &was)

			rowTurned := was
			turn(t, r, &rowTurned)
			r.Drop(255)
			rowTurned.drop(255)
			check(t, r, &rowTurned)
			check(t, first, &turned)
			check(t, second, &was)
			check(t, of, &was)
		}
	}
}

// A copy of a full row is full, and a copy has the room that is left.
func TestCopyHasTheRoom(t *testing.T) {
	full := filled(t, 2, 1, 2).Copy()
	if e := full.Set(3, 1); e != api.ErrFull {
		t.Error("Set into a copy of a full one:", e)
	}
	for room := 1; room <= 16; room++ {
		c := rowOf[int](t, room).Copy()
		for i := range room {
			if e := c.Set(byte(i), i); e != api.OK {
				t.Fatalf("room %d: Set(%d): %v", room, i, e)
			}
		}
		if e := c.Set(255, 1); e != api.ErrFull {
			t.Fatalf("room %d: Set(255): %v", room, e)
		}
	}
}
