package wide

import (
	"math"
	"slices"
	"strconv"
	"testing"

	"spunyarn/api"
)

// rooms are those that boards may have.
func rooms() []int { return []int{48, 256} }

// boardOf is a board of that room, which New must give.
func boardOf[T any](t *testing.T, room int) *Board[T] {
	t.Helper()
	r, e := New[T](room)
	if e != api.OK || r == nil {
		t.Fatalf("New(%d): %v, %v", room, r, e)
	}
	return r
}

// held is the plainest thing that a board may be held against: an entry for each byte, and how many there were at most.
type held[T comparable] struct {
	room  int
	most  int
	there [256]bool
	thing [256]T
}

func (h *held[T]) len() int {
	n := 0
	for _, is := range h.there {
		if is {
			n++
		}
	}
	return n
}

func (h *held[T]) set(b byte, x T) api.Errno {
	if !h.there[b] && h.len() == h.room {
		return api.ErrFull
	}
	h.there[b], h.thing[b] = true, x
	h.most = max(h.most, h.len())
	return api.OK
}

func (h *held[T]) drop(b byte) api.Errno {
	if !h.there[b] {
		return api.ErrNone
	}
	var none T
	h.there[b], h.thing[b] = false, none
	return api.OK
}

// beside is the first byte from from on that is held, by steps of step.
func (h *held[T]) beside(from, step int) (byte, T, bool) {
	for b := from; b >= 0 && b <= 255; b += step {
		if h.there[b] {
			return byte(b), h.thing[b], true
		}
	}
	var none T
	return 0, none, false
}

// both are a board and the plain thing that it is held against.
type both[T comparable] struct {
	r *Board[T]
	h *held[T]
}

func bothOf[T comparable](t *testing.T, room int) both[T] {
	t.Helper()
	return both[T]{boardOf[T](t, room), &held[T]{room: room}}
}

// filled are both of that room, with ten times each of the bytes by it.
func filled(t *testing.T, room int, bytes ...byte) both[int] {
	t.Helper()
	p := bothOf[int](t, room)
	for _, b := range bytes {
		p.set(t, b, 10*int(b))
	}
	return p
}

func (p both[T]) set(t *testing.T, b byte, x T) {
	t.Helper()
	if e, want := p.r.Set(b, x), p.h.set(b, x); e != want {
		t.Fatalf("room %d: Set(%d): %v, not %v", p.h.room, b, e, want)
	}
}

func (p both[T]) drop(t *testing.T, b byte) {
	t.Helper()
	if e, want := p.r.Drop(b), p.h.drop(b); e != want {
		t.Fatalf("room %d: Drop(%d): %v, not %v", p.h.room, b, e, want)
	}
}

func (p both[T]) copy(t *testing.T) both[T] {
	t.Helper()
	c, h := p.r.Copy(), *p.h
	if c == nil || c == p.r {
		t.Fatalf("room %d: Copy: %p of %p", h.room, c, p.r)
	}
	return both[T]{c, &h}
}

// check holds all that can be asked of the board against the plain one.
func (p both[T]) check(t *testing.T) {
	t.Helper()
	r, h := p.r, p.h
	if r.Len() != h.len() || r.Room() != h.room {
		t.Fatalf("Len %d, Room %d, not %d, %d", r.Len(), r.Room(), h.len(), h.room)
	}
	// Places are made as they are needed, so that there are just as many as were needed at once.
	if r.Used() != h.most {
		t.Fatalf("Used %d, not %d", r.Used(), h.most)
	}
	for b := range 256 {
		if x, is := r.Get(byte(b)); x != h.thing[b] || is != h.there[b] {
			t.Fatalf("Get(%d): %v, %v, not %v, %v", b, x, is, h.thing[b], h.there[b])
		}
	}
	for _, from := range froms() {
		b, x, is := r.Next(from)
		wb, wx, wis := h.beside(max(from, 0), 1)
		if b != wb || x != wx || is != wis {
			t.Fatalf("Next(%d): %d, %v, %v, not %d, %v, %v", from, b, x, is, wb, wx, wis)
		}
		b, x, is = r.Prev(from)
		wb, wx, wis = h.beside(min(from, 255), -1)
		if b != wb || x != wx || is != wis {
			t.Fatalf("Prev(%d): %d, %v, %v, not %d, %v, %v", from, b, x, is, wb, wx, wis)
		}
	}
}

// froms are all numbers that bytes may be, and some that they may not.
func froms() []int {
	all := []int{math.MinInt, math.MinInt + 1, -1 << 32, -65536, -257, -256, -255, -2}
	for n := -1; n <= 257; n++ {
		all = append(all, n)
	}
	return append(all, 511, 512, 65535, 65536, 1<<32, 1<<32+7, math.MaxInt-1, math.MaxInt)
}

// rising are the bytes that Next goes through.
func rising[T any](r *Board[T]) []byte {
	var all []byte
	for from := 0; ; {
		b, _, is := r.Next(from)
		if !is {
			return all
		}
		all, from = append(all, b), int(b)+1
	}
}

// falling are the bytes that Prev goes through.
func falling[T any](r *Board[T]) []byte {
	var all []byte
	for from := 255; ; {
		b, _, is := r.Prev(from)
		if !is {
			return all
		}
		all, from = append(all, b), int(b)-1
	}
}

// orders are all bytes in several orders, and few of them.
func orders() [][]byte {
	var up, down, mixed, ends, other []byte
	for i := range 256 {
		up = append(up, byte(i))
		down = append(down, byte(255-i))
		mixed = append(mixed, byte(i*77+19))
		other = append(other, byte(i*i+i)/2*3+byte(i)*128)
		if i%2 == 0 {
			ends = append(ends, byte(i/2))
		} else {
			ends = append(ends, byte(255-i/2))
		}
	}
	return [][]byte{up, down, mixed, ends, other, {0, 255}, {255}, {7}}
}

// P10.1

func TestNewOfEachRoom(t *testing.T) {
	for _, room := range rooms() {
		bothOf[int](t, room).check(t)
		bothOf[string](t, room).check(t)
	}
}

func TestNewOfOtherRooms(t *testing.T) {
	others := []int{math.MinInt, -256, -48, 1<<32 + 48, 1<<32 + 256, math.MaxInt}
	for n := -3; n <= 600; n++ {
		if n != 48 && n != 256 {
			others = append(others, n)
		}
	}
	for _, room := range others {
		if r, e := New[int](room); r != nil || e != api.ErrArg {
			t.Errorf("New(%d): %v, %v", room, r, e)
		}
	}
}

func TestExample(t *testing.T) {
	p := bothOf[int](t, 48)
	for b := range 48 {
		if e := p.r.Set(byte(b), b); e != api.OK {
			t.Fatalf("Set(%d): %v", b, e)
		}
	}
	for b := 48; b < 256; b++ {
		if e := p.r.Set(byte(b), b); e != api.ErrFull {
			t.Fatalf("Set(%d): %v", b, e)
		}
	}
	if p.r.Len() != 48 || p.r.Used() != 48 {
		t.Error(p.r.Len(), p.r.Used())
	}
}

// Each room is filled in each order; what has no room any more is refused, and turns nothing.
func TestSetInAnyOrder(t *testing.T) {
	for _, room := range rooms() {
		for _, bytes := range orders() {
			p := bothOf[int](t, room)
			for i, b := range bytes {
				want := api.OK
				if i >= room && !p.h.there[b] {
					want = api.ErrFull
				}
				if e := p.r.Set(b, i+1000); e != want {
					t.Fatalf("room %d: Set(%d): %v, not %v", room, b, e, want)
				}
				p.h.set(b, i+1000)
				p.check(t)
			}
		}
	}
}

func TestSetInPlace(t *testing.T) {
	for _, room := range rooms() {
		for _, bytes := range orders() {
			for _, n := range []int{1, 2, 17, 47, 48, 49, 255, 256} {
				if n > room || n > len(bytes) {
					continue
				}
				p := filled(t, room, bytes[:n]...)
				for i, b := range bytes[:n] {
					for _, x := range []int{-i, 0, 1000 + i} {
						if e := p.r.Set(b, x); e != api.OK {
							t.Fatalf("room %d: Set(%d) of one that is held: %v", room, b, e)
						}
						p.h.set(b, x)
					}
				}
				p.check(t)
			}
		}
	}
}

// A board of 48 that is full takes what it holds already, and no other byte.
func TestFullBoard(t *testing.T) {
	p := bothOf[int](t, 48)
	for i := range 48 {
		p.set(t, byte(5*i), i)
	}
	for b := range 256 {
		want := api.ErrFull
		if b%5 == 0 && b/5 < 48 {
			want = api.OK
		}
		if e := p.r.Set(byte(b), b+1000); e != want {
			t.Fatalf("Set(%d): %v, not %v", b, e, want)
		}
		p.h.set(byte(b), b+1000)
		p.check(t)
	}
}

// A board of 256 has room for all bytes, and is never full for one that it does not hold.
func TestBoardOfAllBytes(t *testing.T) {
	for _, bytes := range orders()[:4] {
		p := filled(t, 256, bytes...)
		p.check(t)
		if p.r.Len() != 256 || p.r.Used() != 256 {
			t.Fatal(p.r.Len(), p.r.Used())
		}
		for _, b := range bytes {
			p.set(t, b, int(b)-1)
		}
		p.check(t)
		for _, b := range bytes {
			p.drop(t, b)
			p.drop(t, b)
			p.set(t, b, int(b)+1)
		}
		p.check(t)
	}
}

func TestRoomThatIsLeftIsUsed(t *testing.T) {
	p := bothOf[int](t, 48)
	for i := range 48 {
		p.set(t, byte(3*i), i)
	}
	for i := range 48 {
		if e := p.r.Drop(byte(3 * i)); e != api.OK {
			t.Fatalf("Drop(%d): %v", 3*i, e)
		}
		p.h.drop(byte(3 * i))
		p.check(t)
		if e := p.r.Set(byte(255-i), i); e != api.OK {
			t.Fatalf("Set(%d): %v", 255-i, e)
		}
		p.h.set(byte(255-i), i)
		p.check(t)
		if e := p.r.Set(200, i); e != api.ErrFull {
			t.Fatalf("Set(200): %v", e)
		}
	}
}

func TestDropInAnyOrder(t *testing.T) {
	for _, room := range rooms() {
		for _, bytes := range orders() {
			for _, gone := range orders() {
				p := filled(t, room, bytes[:min(room, len(bytes))]...)
				for i, b := range slices.Concat(gone, bytes) {
					p.drop(t, b)
					if i%32 == 0 {
						p.check(t)
					}
				}
				p.check(t)
				if p.r.Len() != 0 {
					t.Fatalf("room %d: %d are left", room, p.r.Len())
				}
			}
		}
	}
}

func TestDropOfWhatIsNotHeld(t *testing.T) {
	for _, room := range rooms() {
		for _, bytes := range [][]byte{nil, {0}, {255}, {1, 254}, {0, 255}, {5, 6, 8}, orders()[2][:48]} {
			p := filled(t, room, bytes...)
			for b := range 256 {
				if p.h.there[b] {
					continue
				}
				if e := p.r.Drop(byte(b)); e != api.ErrNone {
					t.Fatalf("%v: Drop(%d): %v", bytes, b, e)
				}
			}
			p.check(t)
		}
	}
}

func TestDropTwice(t *testing.T) {
	for _, room := range rooms() {
		p := filled(t, room, 0, 255)
		for _, b := range []byte{0, 255} {
			if e := p.r.Drop(b); e != api.OK {
				t.Errorf("Drop(%d): %v", b, e)
			}
			if e := p.r.Drop(b); e != api.ErrNone {
				t.Errorf("Drop(%d), then: %v", b, e)
			}
		}
		p.h.drop(0)
		p.h.drop(255)
		p.check(t)
	}
}

// What is put again by a byte is the new thing, and what went is not kept by its place.
func TestDropLetsThingsGo(t *testing.T) {
	for _, room := range rooms() {
		p := bothOf[*int](t, room)
		for i := range 40 {
			p.set(t, byte(6*i), new(int))
		}
		for i := range 40 {
			p.drop(t, byte(6*i))
		}
		for place, x := range p.r.things {
			if x != nil {
				t.Fatalf("room %d: the place %d keeps a thing", room, place)
			}
		}
		for i := range 40 {
			p.set(t, byte(6*i), new(int))
			p.check(t)
		}
	}
}

// P10.2

func TestNextPrev(t *testing.T) {
	for _, room := range rooms() {
		r := filled(t, room, 250, 3, 9).r
		for _, c := range []struct {
			from       int
			next, prev int // below 0: none
		}{
			{math.MinInt, 3, -1},
			{-1, 3, -1},
			{0, 3, -1},
			{2, 3, -1},
			{3, 3, 3},
			{4, 9, 3},
			{8, 9, 3},
			{9, 9, 9},
			{10, 250, 9},
			{249, 250, 9},
			{250, 250, 250},
			{251, -1, 250},
			{255, -1, 250},
			{256, -1, 250},
			{256 + 3, -1, 250},
			{math.MaxInt, -1, 250},
		} {
			if b, x, is := r.Next(c.from); !told(b, x, is, c.next) {
				t.Errorf("Next(%d): %d, %d, %v", c.from, b, x, is)
			}
			if b, x, is := r.Prev(c.from); !told(b, x, is, c.prev) {
				t.Errorf("Prev(%d): %d, %d, %v", c.from, b, x, is)
			}
		}
	}
}

// told tells whether that is the answer of want on a board that filled gave, or the one of none.
func told(b byte, x int, is bool, want int) bool {
	if want < 0 {
		return b == 0 && x == 0 && !is
	}
	return int(b) == want && x == 10*want && is
}

func TestLeastAndGreatestByte(t *testing.T) {
	for _, room := range rooms() {
		r := filled(t, room, 255, 0).r
		for _, c := range []struct{ from, next, prev int }{
			{-1, 0, -1}, {0, 0, 0}, {1, 255, 0}, {254, 255, 0}, {255, 255, 255}, {256, -1, 255},
		} {
			if b, x, is := r.Next(c.from); !told(b, x, is, c.next) {
				t.Errorf("Next(%d): %d, %d, %v", c.from, b, x, is)
			}
			if b, x, is := r.Prev(c.from); !told(b, x, is, c.prev) {
				t.Errorf("Prev(%d): %d, %d, %v", c.from, b, x, is)
			}
		}
		if x, is := r.Get(255); x != 2550 || !is {
			t.Error("Get(255):", x, is)
		}
		if x, is := r.Get(0); x != 0 || !is {
			t.Error("Get(0):", x, is)
		}
	}
}

// A thing that is a zero value is held like others.
func TestZeroThings(t *testing.T) {
	for _, room := range rooms() {
		r := boardOf[int](t, room)
		r.Set(0, 0)
		if x, is := r.Get(0); x != 0 || !is || r.Len() != 1 {
			t.Error(x, is, r.Len())
		}
		if b, x, is := r.Next(0); b != 0 || x != 0 || !is {
			t.Error(b, x, is)
		}
		if b, x, is := r.Prev(255); b != 0 || x != 0 || !is {
			t.Error(b, x, is)
		}
	}
}

func TestGoneThroughBothWays(t *testing.T) {
	for _, room := range rooms() {
		for _, bytes := range orders() {
			for n := range min(room, len(bytes)) + 1 {
				r := filled(t, room, bytes[:n]...).r
				want := slices.Compact(slices.Sorted(slices.Values(bytes[:n])))
				if got := rising(r); !slices.Equal(got, want) {
					t.Fatalf("by Next: %v, not %v", got, want)
				}
				slices.Reverse(want)
				if got := falling(r); !slices.Equal(got, want) {
					t.Fatalf("by Prev: %v, not %v", got, want)
				}
			}
		}
	}
}

func TestNothingToGoThrough(t *testing.T) {
	for _, room := range rooms() {
		fresh, left := bothOf[int](t, room), filled(t, room, 0, 9, 255)
		for _, b := range []byte{9, 0, 255} {
			left.drop(t, b)
		}
		for _, p := range []both[int]{fresh, left} {
			if got := rising(p.r); len(got) != 0 {
				t.Error("by Next:", got)
			}
			if got := falling(p.r); len(got) != 0 {
				t.Error("by Prev:", got)
			}
			p.check(t)
		}
	}
}

// many does steps steps of a fixed row of numbers with a board of that room, and holds it against the plain one behind each.
func many[T comparable](t *testing.T, room, steps int, thing func(int) T) {
	t.Helper()
	p := bothOf[T](t, room)
	state := uint32(room)
	for i := range steps {
		state = state*1664525 + 1013904223
		b := byte(state >> 24)
		if state>>20&3 == 0 { // now and then from among few, so that things are met again
			b = b & 15 * 17
		}
		// For a while mostly more come, for a while mostly more go.
		more := uint32(6)
		if i/200%2 == 1 {
			more = 1
		}
		if state>>16&7 < more {
			p.set(t, b, thing(i))
		} else {
			p.drop(t, b)
		}
		p.check(t)
	}
}

func TestManySteps(t *testing.T) {
	type pair struct {
		name string
		n    [2]int
	}
	for _, room := range rooms() {
		many(t, room, 2000, func(i int) int { return i })
		many(t, room, 800, func(i int) string { return strconv.Itoa(i) })
		many(t, room, 800, func(i int) pair { return pair{strconv.Itoa(i), [2]int{i, -i}} })
		many(t, room, 800, func(i int) *int { return &i })
		many(t, room, 400, func(i int) bool { return i%2 == 0 })
		many(t, room, 400, func(i int) struct{} { return struct{}{} })
	}
}

// Things that cannot be held against each other are held too.
func TestOtherThings(t *testing.T) {
	for _, room := range rooms() {
		lists := boardOf[[]byte](t, room)
		lists.Set(9, []byte{1, 2})
		lists.Set(4, nil)
		if x, is := lists.Get(9); !slices.Equal(x, []byte{1, 2}) || !is {
			t.Error(x, is)
		}
		if x, is := lists.Get(4); x != nil || !is {
			t.Error(x, is)
		}
		functions := boardOf[func() int](t, room)
		functions.Set(1, func() int { return 5 })
		if x, is := functions.Get(1); !is || x() != 5 {
			t.Error(is)
		}
		if x, is := functions.Get(2); x != nil || is {
			t.Error(is)
		}
		boards := boardOf[*Board[int]](t, room)
		boards.Set(1, filled(t, room, 7).r)
		if x, is := boards.Get(1); !is || x.Len() != 1 {
			t.Error(is)
		}
	}
}

func TestBoardsAreApart(t *testing.T) {
	for _, room := range rooms() {
		a, b := filled(t, room, 1, 2), filled(t, room, 1, 3)
		a.set(t, 1, 99)
		a.drop(t, 2)
		a.check(t)
		b.check(t)
	}
}

func TestNobodys(t *testing.T) {
	nobodys[int](t, 5)
	nobodys[string](t, "a")
	nobodys[struct{ a, b int }](t, struct{ a, b int }{1, 2})
	nobodys[*int](t, new(int))
}

func nobodys[T comparable](t *testing.T, x T) {
	t.Helper()
	var zero Board[T]
	for _, r := range []*Board[T]{nil, &zero, new(Board[T]), {}} {
		for range 2 { // what was refused turned nothing
			for b := range 256 {
				if e := r.Set(byte(b), x); e != api.ErrNil {
					t.Fatalf("Set(%d): %v", b, e)
				}
				if e := r.Drop(byte(b)); e != api.ErrNil {
					t.Fatalf("Drop(%d): %v", b, e)
				}
			}
			both[T]{r, &held[T]{}}.check(t)
			if c := r.Copy(); c != nil {
				t.Error("Copy:", c)
			}
		}
	}
}

func TestCopyIsTheSame(t *testing.T) {
	for _, room := range rooms() {
		p := bothOf[int](t, room)
		for n := range room {
			p.copy(t).check(t)
			p.check(t)
			p.set(t, byte(255-5*n), n)
		}
		p.copy(t).check(t)
		for n := range room {
			p.drop(t, byte(255-5*n))
			p.copy(t).check(t)
		}
		p.check(t)
	}
}

// turn does all that turns a board.
func turn(t *testing.T, p both[int]) {
	t.Helper()
	for _, b := range []byte{200, 0, 3, 255, 9} {
		p.set(t, b, 7777)
		p.check(t)
	}
	for _, b := range []byte{0, 3, 100, 200} {
		p.drop(t, b)
		p.check(t)
	}
	for _, b := range []byte{1, 101, 102} {
		p.set(t, b, 8888)
		p.check(t)
	}
}

func TestCopiesAreApart(t *testing.T) {
	for _, room := range rooms() {
		for _, bytes := range [][]byte{nil, {3}, {0, 255}, {0, 3, 9}, orders()[0][:47], orders()[1][:48], orders()[2][:48]} {
			p := filled(t, room, bytes...)
			first, second := p.copy(t), p.copy(t)
			of := first.copy(t)

			turn(t, first)
			p.check(t)
			second.check(t)
			of.check(t)

			turn(t, p)
			p.drop(t, 255)
			p.check(t)
			first.check(t)
			second.check(t)
			of.check(t)
		}
	}
}

// Places that were left are used again by the board and by its copies, and each does so by itself.
func TestCopiesUseLeftPlacesApart(t *testing.T) {
	for _, room := range rooms() {
		for _, n := range []int{1, 5, 48} {
			p := filled(t, room, orders()[0][:n]...)
			for i := range n {
				p.drop(t, byte(i))
				first, second := p.copy(t), p.copy(t)
				for j := range i + 1 {
					first.set(t, byte(100+j), 1000+j)
					first.check(t)
				}
				second.check(t)
				p.check(t)
				for j := range i + 1 {
					second.set(t, byte(200-j), 2000+j)
				}
				for j := range i + 1 {
					p.set(t, byte(250-j), 3000+j)
				}
				first.check(t)
				second.check(t)
				p.check(t)
				for j := range i + 1 {
					p.drop(t, byte(250-j))
				}
				for j := n - 1; j > i; j-- {
					first.drop(t, byte(j))
				}
				first.check(t)
				second.check(t)
				p.check(t)
			}
		}
	}
}

// A copy of a full board is full, and a copy has the room that is left.
func TestCopyHasTheRoom(t *testing.T) {
	for _, room := range rooms() {
		c := boardOf[int](t, room).Copy()
		for b := range 256 {
			want := api.OK
			if b >= room {
				want = api.ErrFull
			}
			if e := c.Set(byte(b), b); e != want {
				t.Fatalf("room %d: Set(%d): %v, not %v", room, b, e, want)
			}
			if e := c.Copy().Set(byte(b), b); e != want {
				t.Fatalf("room %d: Set(%d) of a copy: %v, not %v", room, b, e, want)
			}
		}
	}
}

// P10.3

func TestLeftPlacesAreUsedAgain(t *testing.T) {
	for _, room := range rooms() {
		for _, n := range []int{1, 2, 17, 47, 48, 255, 256} {
			if n > room {
				continue
			}
			r := boardOf[int](t, room)
			for i := range 1000 {
				if e := r.Set(byte(i), i); e != api.OK {
					t.Fatalf("room %d: Set(%d): %v", room, i, e)
				}
				if i >= n-1 {
					if e := r.Drop(byte(i - n + 1)); e != api.OK {
						t.Fatalf("room %d: Drop(%d): %v", room, i-n+1, e)
					}
				}
				if most := min(i+1, n); r.Used() != most {
					t.Fatalf("room %d, %d at once: Used %d, not %d", room, n, r.Used(), most)
				}
			}
		}
	}
}

// A thing that is put in place of another one, one that is refused, and one that goes need no place more, and places stay when all went.
func TestUsedStays(t *testing.T) {
	p := filled(t, 48, orders()[2][:48]...)
	used := func(want int) {
		t.Helper()
		if n := p.r.Used(); n != want {
			t.Fatalf("Used %d, not %d", n, want)
		}
	}
	used(48)
	for _, b := range orders()[2] {
		p.set(t, b, 1)
		used(48)
	}
	for _, b := range orders()[0] {
		p.drop(t, b)
		used(48)
	}
	for _, b := range orders()[0] {
		p.set(t, b, 2)
		used(48)
	}
	p.check(t)
}

// Many come and go in waves, each with other bytes: a wave that is not above those ahead of it makes no place.
func TestUsedInWaves(t *testing.T) {
	for _, room := range rooms() {
		p, most := bothOf[int](t, room), 0
		for wave, n := range []int{3, 10, 4, 30, 30, 1, 47, 48, 20, 48} {
			for i := range n {
				p.set(t, byte(31*wave+5*i), i)
			}
			most = max(most, n)
			if p.r.Used() != most {
				t.Fatalf("room %d, wave %d: Used %d, not %d", room, wave, p.r.Used(), most)
			}
			p.check(t)
			for i := range n {
				p.drop(t, byte(31*wave+5*(n-1-i)))
			}
			if p.r.Used() != most || p.r.Len() != 0 {
				t.Fatalf("room %d, wave %d, then: Used %d, Len %d", room, wave, p.r.Used(), p.r.Len())
			}
			p.check(t)
		}
	}
}
