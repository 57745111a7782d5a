package kids

import (
	"math"
	"slices"
	"strconv"
	"testing"

	"spunyarn/api"
)

// edges are how many things each kind has at least and at most, and some between.
func edges() []int {
	return []int{0, 1, 2, 3, 4, 5, 6, 15, 16, 17, 18, 32, 47, 48, 49, 50, 100, 254, 255, 256}
}

// plainKind is the kind of n things, told by how many kinds are too small for them.
func plainKind(n int) int {
	switch {
	case n > 48:
		return 256
	case n > 16:
		return 48
	case n > 4:
		return 16
	}
	return 4
}

// held is the plainest thing that kids may be held against: an entry for each byte.
type held[T comparable] struct {
	there [256]bool
	thing [256]T
}

func (h *held[T]) len() int {
	n := 0
	for _, is := range h.there {
		if is {
			n++
		}
	}
	return n
}

func (h *held[T]) drop(b byte) api.Errno {
	if !h.there[b] {
		return api.ErrNone
	}
	var none T
	h.there[b], h.thing[b] = false, none
	return api.OK
}

// beside is the first byte from from on that is held, by steps of step.
func (h *held[T]) beside(from, step int) (byte, T, bool) {
	for b := from; b >= 0 && b <= 255; b += step {
		if h.there[b] {
			return byte(b), h.thing[b], true
		}
	}
	var none T
	return 0, none, false
}

// both are kids and the plain thing that they are held against.
type both[T comparable] struct {
	k *Kids[T]
	h *held[T]
}

func bothOf[T comparable](t *testing.T) both[T] {
	t.Helper()
	k := New[T]()
	if k == nil {
		t.Fatal("New: nil")
	}
	return both[T]{k, &held[T]{}}
}

// filled are both, with ten times each of the bytes by it.
func filled(t *testing.T, bytes ...byte) both[int] {
	t.Helper()
	p := bothOf[int](t)
	for _, b := range bytes {
		p.set(t, b, 10*int(b))
	}
	return p
}

func (p both[T]) set(t *testing.T, b byte, x T) {
	t.Helper()
	if e := p.k.Set(b, x); e != api.OK {
		t.Fatalf("%d things: Set(%d): %v", p.h.len(), b, e)
	}
	p.h.there[b], p.h.thing[b] = true, x
}

func (p both[T]) drop(t *testing.T, b byte) {
	t.Helper()
	n := p.h.len()
	if e, want := p.k.Drop(b), p.h.drop(b); e != want {
		t.Fatalf("%d things: Drop(%d): %v, not %v", n, b, e, want)
	}
}

func (p both[T]) copy(t *testing.T) both[T] {
	t.Helper()
	c, h := p.k.Copy(), *p.h
	if c == nil || c == p.k {
		t.Fatalf("%d things: Copy: %p of %p", h.len(), c, p.k)
	}
	return both[T]{c, &h}
}

// kind holds how many there are, their kind, and where they stand against the plain thing.
func (p both[T]) kind(t *testing.T) {
	t.Helper()
	k, n := p.k, p.h.len()
	want := plainKind(n)
	if k.Len() != n || k.Kind() != want {
		t.Fatalf("Len %d, Kind %d, not %d, %d", k.Len(), k.Kind(), n, want)
	}
	row, board := want, 0
	if want > 16 {
		row, board = 0, want
	}
	if k.row.Room() != row || k.board.Room() != board {
		t.Fatalf("%d things: a row of room %d, a board of room %d", n, k.row.Room(), k.board.Room())
	}
}

// check holds all that can be asked of the kids against the plain thing.
func (p both[T]) check(t *testing.T) {
	t.Helper()
	p.kind(t)
	k, h := p.k, p.h
	for b := range 256 {
		if x, is := k.Get(byte(b)); x != h.thing[b] || is != h.there[b] {
			t.Fatalf("Get(%d): %v, %v, not %v, %v", b, x, is, h.thing[b], h.there[b])
		}
	}
	for _, from := range froms() {
		b, x, is := k.Next(from)
		wb, wx, wis := h.beside(max(from, 0), 1)
		if b != wb || x != wx || is != wis {
			t.Fatalf("Next(%d): %d, %v, %v, not %d, %v, %v", from, b, x, is, wb, wx, wis)
		}
		b, x, is = k.Prev(from)
		wb, wx, wis = h.beside(min(from, 255), -1)
		if b != wb || x != wx || is != wis {
			t.Fatalf("Prev(%d): %d, %v, %v, not %d, %v, %v", from, b, x, is, wb, wx, wis)
		}
	}
	up, down := rising(k), falling(k)
	slices.Reverse(down)
	if len(up) != h.len() || !slices.Equal(up, down) {
		t.Fatalf("%d things: by Next %v, by Prev, turned round, %v", h.len(), up, down)
	}
}

// froms are all numbers that bytes may be, and some that they may not.
func froms() []int {
	all := []int{math.MinInt, math.MinInt + 1, -1 << 32, -65536, -257, -256, -255, -2}
	for n := -1; n <= 257; n++ {
		all = append(all, n)
	}
	return append(all, 511, 512, 65535, 65536, 1<<32, 1<<32+7, math.MaxInt-1, math.MaxInt)
}

// rising are the bytes that Next goes through.
func rising[T any](k *Kids[T]) []byte {
	var all []byte
	for from := 0; ; {
		b, _, is := k.Next(from)
		if !is {
			return all
		}
		all, from = append(all, b), int(b)+1
	}
}

// falling are the bytes that Prev goes through.
func falling[T any](k *Kids[T]) []byte {
	var all []byte
	for from := 255; ; {
		b, _, is := k.Prev(from)
		if !is {
			return all
		}
		all, from = append(all, b), int(b)-1
	}
}

// orders are all bytes in several orders: each byte stands in each of them once.
func orders() [][]byte {
	var up, down, mixed, ends, other []byte
	for i := range 256 {
		up = append(up, byte(i))
		down = append(down, byte(255-i))
		mixed = append(mixed, byte(i*77+19))
		other = append(other, byte(i*(i+1)/2))
		if i%2 == 0 {
			ends = append(ends, byte(i/2))
		} else {
			ends = append(ends, byte(255-i/2))
		}
	}
	return [][]byte{up, down, mixed, ends, other}
}

func TestOrders(t *testing.T) {
	for i, bytes := range orders() {
		if all := slices.Compact(slices.Sorted(slices.Values(bytes))); len(all) != 256 {
			t.Errorf("order %d has %d bytes", i, len(all))
		}
	}
}

// P11.1

func TestNewIsOfNothing(t *testing.T) {
	bothOf[int](t).check(t)
	bothOf[string](t).check(t)
	bothOf[struct{ a, b int }](t).check(t)
	if a, b := New[int](), New[int](); a == b {
		t.Error("the same kids twice")
	}
}

func TestKindOf(t *testing.T) {
	for _, c := range []struct{ n, kind int }{
		{math.MinInt, 0}, {-1 << 32, 0}, {-256, 0}, {-4, 0}, {-1, 0},
		{0, api.Node4}, {1, api.Node4}, {3, api.Node4}, {4, api.Node4},
		{5, api.Node16}, {15, api.Node16}, {16, api.Node16},
		{17, api.Node48}, {47, api.Node48}, {48, api.Node48},
		{49, api.Node256}, {255, api.Node256}, {256, api.Node256},
		{257, 0}, {512, 0}, {1<<32 + 4, 0}, {math.MaxInt, 0},
	} {
		if kind := KindOf(c.n); kind != c.kind {
			t.Errorf("KindOf(%d): %d, not %d", c.n, kind, c.kind)
		}
	}
	for n := range 257 {
		if kind := KindOf(n); kind != plainKind(n) {
			t.Errorf("KindOf(%d): %d, not %d", n, kind, plainKind(n))
		}
	}
}

func TestExample(t *testing.T) {
	p := filled(t, 0, 1, 2, 3, 4)
	if kind := p.k.Kind(); kind != 16 {
		t.Error("of five:", kind)
	}
	p.drop(t, 2)
	if kind := p.k.Kind(); kind != 4 {
		t.Error("of four:", kind)
	}
}

func TestSetInAnyOrder(t *testing.T) {
	for _, bytes := range orders() {
		p := bothOf[int](t)
		for i, b := range bytes {
			p.set(t, b, 1000+i)
			p.check(t)
		}
	}
}

// What is put in place of another thing takes no room, so that kids whose kind is full stay of that kind.
func TestSetInPlace(t *testing.T) {
	for _, bytes := range orders() {
		for _, n := range edges() {
			p := filled(t, bytes[:n]...)
			for i, b := range bytes[:n] {
				for _, x := range []int{-i, 0, 1000 + i} {
					p.set(t, b, x)
					p.kind(t)
				}
			}
			p.check(t)
		}
	}
}

// Kids of all bytes have no room for more, and need none.
func TestKidsOfAllBytes(t *testing.T) {
	for _, bytes := range orders() {
		p := filled(t, bytes...)
		if p.k.Len() != 256 || p.k.Kind() != 256 {
			t.Fatal(p.k.Len(), p.k.Kind())
		}
		for i, b := range bytes {
			if e := p.k.Set(b, -i); e != api.OK {
				t.Fatalf("Set(%d) of one that is held: %v", b, e)
			}
			p.h.thing[b] = -i
			p.kind(t)
		}
		p.check(t)
		for i, b := range bytes {
			p.drop(t, b)
			p.drop(t, b)
			p.kind(t)
			p.set(t, b, i)
			p.kind(t)
		}
		p.check(t)
	}
}

func TestDropInAnyOrder(t *testing.T) {
	for _, bytes := range orders() {
		for _, gone := range orders() {
			p := filled(t, bytes...)
			for i, b := range gone {
				p.drop(t, b)
				if left := 255 - i; slices.Contains(edges(), left) {
					p.check(t)
				}
				p.kind(t)
			}
			p.check(t)
			if p.k.Len() != 0 {
				t.Fatalf("%d are left", p.k.Len())
			}
		}
	}
}

// What is taken out is put again with another thing, behind all others that went.
func TestTakenOutAndPutAgain(t *testing.T) {
	for _, bytes := range orders() {
		for _, n := range edges() {
			p := filled(t, bytes[:n]...)
			for range 2 {
				for _, b := range bytes[:n] {
					p.drop(t, b)
					p.kind(t)
				}
				p.check(t)
				for i, b := range bytes[:n] {
					p.set(t, b, 2000+i)
					p.kind(t)
				}
				p.check(t)
			}
		}
	}
}

// Nothing goes where there is nothing by the byte, so that kids just above a step do not take it.
func TestDropOfWhatIsNotHeld(t *testing.T) {
	for _, bytes := range orders() {
		for _, n := range edges() {
			p := filled(t, bytes[:n]...)
			for _, b := range bytes[n:] {
				if e := p.k.Drop(b); e != api.ErrNone {
					t.Fatalf("%d things: Drop(%d): %v", n, b, e)
				}
				p.kind(t)
			}
			p.check(t)
		}
	}
}

func TestDropTwice(t *testing.T) {
	for _, bytes := range orders() {
		for _, n := range edges()[1:] {
			for _, b := range []byte{bytes[0], bytes[n/2], bytes[n-1]} {
				p := filled(t, bytes[:n]...)
				if e := p.k.Drop(b); e != api.OK {
					t.Fatalf("%d things: Drop(%d): %v", n, b, e)
				}
				p.h.drop(b)
				for range 2 {
					if e := p.k.Drop(b); e != api.ErrNone {
						t.Fatalf("%d things: Drop(%d), then: %v", n, b, e)
					}
				}
				p.check(t)
			}
		}
	}
}

func TestDropOfNothing(t *testing.T) {
	fresh, left := bothOf[int](t), filled(t, orders()[2]...)
	for _, b := range orders()[4] {
		left.drop(t, b)
	}
	for _, p := range []both[int]{fresh, left} {
		for b := range 256 {
			if e := p.k.Drop(byte(b)); e != api.ErrNone {
				t.Fatalf("Drop(%d): %v", b, e)
			}
		}
		p.check(t)
		if up, down := rising(p.k), falling(p.k); len(up) != 0 || len(down) != 0 {
			t.Error("of nothing:", up, down)
		}
		p.set(t, 9, 1)
		p.check(t)
	}
}

// P11.2

// kinds are bytes by which kids have 3, 9, 250 and others between 9 and 250, of each kind.
func kinds() [][]byte {
	all := [][]byte{{250, 3, 9}}
	for _, n := range []int{5, 16, 17, 48, 49, 200} {
		bytes := []byte{250, 3, 9}
		for i := range n - 3 {
			bytes = append(bytes, byte(20+i))
		}
		all = append(all, bytes)
	}
	return all
}

func TestNextPrev(t *testing.T) {
	for _, bytes := range kinds() {
		k := filled(t, bytes...).k
		for _, c := range []struct {
			from       int
			next, prev int // below 0: none
		}{
			{math.MinInt, 3, -1},
			{-1, 3, -1},
			{0, 3, -1},
			{2, 3, -1},
			{3, 3, 3},
			{4, 9, 3},
			{8, 9, 3},
			{9, 9, 9},
			{250, 250, 250},
			{251, -1, 250},
			{255, -1, 250},
			{256, -1, 250},
			{256 + 3, -1, 250},
			{math.MaxInt, -1, 250},
		} {
			if b, x, is := k.Next(c.from); !told(b, x, is, c.next) {
				t.Errorf("%d things: Next(%d): %d, %d, %v", len(bytes), c.from, b, x, is)
			}
			if b, x, is := k.Prev(c.from); !told(b, x, is, c.prev) {
				t.Errorf("%d things: Prev(%d): %d, %d, %v", len(bytes), c.from, b, x, is)
			}
		}
	}
}

// told tells whether that is the answer of want on kids that filled gave, or the one of none.
func told(b byte, x int, is bool, want int) bool {
	if want < 0 {
		return b == 0 && x == 0 && !is
	}
	return int(b) == want && x == 10*want && is
}

func TestLeastAndGreatestByte(t *testing.T) {
	for _, n := range []int{2, 4, 5, 16, 17, 48, 49, 200} {
		bytes := []byte{255, 0}
		for i := range n - 2 {
			bytes = append(bytes, byte(20+i))
		}
		k := filled(t, bytes...).k
		for _, c := range []struct{ from, next, prev int }{
			{math.MinInt, 0, -1}, {-1, 0, -1}, {0, 0, 0}, {254, 255, int(slices.Max(append(bytes[1:], 0)))},
			{255, 255, 255}, {256, -1, 255}, {math.MaxInt, -1, 255},
		} {
			if b, x, is := k.Next(c.from); !told(b, x, is, c.next) {
				t.Errorf("%d things: Next(%d): %d, %d, %v", n, c.from, b, x, is)
			}
			if b, x, is := k.Prev(c.from); !told(b, x, is, c.prev) {
				t.Errorf("%d things: Prev(%d): %d, %d, %v", n, c.from, b, x, is)
			}
		}
		for _, b := range []byte{0, 255} {
			if x, is := k.Get(b); x != 10*int(b) || !is {
				t.Errorf("%d things: Get(%d): %d, %v", n, b, x, is)
			}
			if e := k.Drop(b); e != api.OK {
				t.Errorf("%d things: Drop(%d): %v", n, b, e)
			}
			if x, is := k.Get(b); x != 0 || is {
				t.Errorf("%d things: Get(%d), then: %d, %v", n, b, x, is)
			}
		}
	}
}

// A thing that is a zero value is held like others, in each kind.
func TestZeroThings(t *testing.T) {
	for _, bytes := range orders() {
		p, l := bothOf[int](t), New[*int]()
		for i, b := range bytes {
			p.set(t, b, 0)
			l.Set(b, nil)
			if x, is := l.Get(b); x != nil || !is || l.Len() != i+1 {
				t.Fatal(x, is, l.Len())
			}
			p.kind(t)
		}
		p.check(t)
		for i, b := range bytes {
			p.drop(t, b)
			l.Drop(b)
			if x, is := l.Get(b); x != nil || is || l.Len() != 255-i {
				t.Fatal(x, is, l.Len())
			}
		}
		p.check(t)
	}
}

func TestGoneThroughBothWays(t *testing.T) {
	for _, bytes := range orders() {
		for n := range 257 {
			k := filled(t, bytes[:n]...).k
			want := slices.Sorted(slices.Values(bytes[:n]))
			if got := rising(k); !slices.Equal(got, want) {
				t.Fatalf("by Next: %v, not %v", got, want)
			}
			slices.Reverse(want)
			if got := falling(k); !slices.Equal(got, want) {
				t.Fatalf("by Prev: %v, not %v", got, want)
			}
		}
	}
}

// many does steps steps of a fixed row of numbers with kids, and holds them against the plain thing behind each.
func many[T comparable](t *testing.T, steps int, thing func(int) T) {
	t.Helper()
	p := bothOf[T](t)
	state := uint32(steps)
	for i := range steps {
		state = state*1664525 + 1013904223
		b := byte(state >> 24)
		if state>>20&3 == 0 { // now and then from among few, so that things are met again
			b = b & 15 * 17
		}
		// For a while mostly more come, for a while mostly more go.
		more := uint32(6)
		if i/250%2 == 1 {
			more = 1
		}
		if state>>16&7 < more {
			p.set(t, b, thing(i))
		} else {
			p.drop(t, b)
		}
		p.check(t)
	}
}

func TestManySteps(t *testing.T) {
	type pair struct {
		name string
		n    [2]int
	}
	many(t, 3000, func(i int) int { return i })
	many(t, 1000, func(i int) string { return strconv.Itoa(i) })
	many(t, 1000, func(i int) pair { return pair{strconv.Itoa(i), [2]int{i, -i}} })
	many(t, 1000, func(i int) *int { return &i })
	many(t, 500, func(i int) uint64 { return math.MaxUint64 - uint64(i) })
	many(t, 500, func(i int) bool { return i%2 == 0 })
	many(t, 500, func(i int) struct{} { return struct{}{} })
}

// Things that cannot be held against each other are held too, and are moved from kind to kind.
func TestOtherThings(t *testing.T) {
	lists, functions, kids := New[[]byte](), New[func() int](), New[*Kids[int]]()
	all := func(n int) {
		t.Helper()
		for b := range n {
			if x, is := lists.Get(byte(b)); !slices.Equal(x, []byte{byte(b), 1}) || !is {
				t.Fatal(b, x, is)
			}
			if x, is := functions.Get(byte(b)); !is || x() != b {
				t.Fatal(b, is)
			}
			if x, is := kids.Get(byte(b)); !is || x.Len() != b {
				t.Fatal(b, is)
			}
		}
		if l, f, k := lists.Kind(), functions.Kind(), kids.Kind(); l != plainKind(n) || f != l || k != l {
			t.Fatal(n, l, f, k)
		}
	}
	for b := range 256 {
		all(b)
		lists.Set(byte(b), []byte{byte(b), 1})
		functions.Set(byte(b), func() int { return b })
		kids.Set(byte(b), filled(t, orders()[2][:b]...).k)
	}
	for n := 256; n > 0; n-- {
		all(n)
		lists.Drop(byte(n - 1))
		functions.Drop(byte(n - 1))
		kids.Drop(byte(n - 1))
	}
	all(0)
}

func TestKidsAreApart(t *testing.T) {
	for _, n := range edges() {
		a, b := filled(t, orders()[2][:n]...), filled(t, orders()[2][:n]...)
		turn(t, a)
		b.check(t)
	}
}

func TestNobodys(t *testing.T) {
	nobodys(t, 5)
	nobodys(t, "a")
	nobodys(t, struct{ a, b int }{1, 2})
	nobodys(t, new(int))
}

func nobodys[T comparable](t *testing.T, x T) {
	t.Helper()
	var zero Kids[T]
	for _, k := range []*Kids[T]{nil, &zero, new(Kids[T]), {}} {
		for range 2 { // what was refused turned nothing
			for b := range 256 {
				if e := k.Set(byte(b), x); e != api.ErrNil {
					t.Fatalf("Set(%d): %v", b, e)
				}
				if e := k.Drop(byte(b)); e != api.ErrNil {
					t.Fatalf("Drop(%d): %v", b, e)
				}
				if y, is := k.Get(byte(b)); is || y != *new(T) {
					t.Fatalf("Get(%d): %v, %v", b, y, is)
				}
			}
			for _, from := range froms() {
				if b, y, is := k.Next(from); b != 0 || is || y != *new(T) {
					t.Fatalf("Next(%d): %d, %v, %v", from, b, y, is)
				}
				if b, y, is := k.Prev(from); b != 0 || is || y != *new(T) {
					t.Fatalf("Prev(%d): %d, %v, %v", from, b, y, is)
				}
			}
			if k.Len() != 0 || k.Kind() != 0 {
				t.Fatalf("Len %d, Kind %d", k.Len(), k.Kind())
			}
			if c := k.Copy(); c != nil {
				t.Fatal("Copy:", c)
			}
		}
	}
}

func TestCopyIsTheSame(t *testing.T) {
	for _, bytes := range orders() {
		p := bothOf[int](t)
		for i, b := range bytes {
			p.copy(t).check(t)
			p.set(t, b, i)
		}
		p.copy(t).check(t)
		for _, b := range bytes {
			p.drop(t, b)
			p.copy(t).check(t)
		}
		p.check(t)
	}
}

// P11.3

// There and back again over each step, several times one behind the other.
func TestStepsBetweenKinds(t *testing.T) {
	for _, bytes := range orders() {
		for _, n := range []int{4, 16, 48} {
			p := filled(t, bytes[:n]...)
			for i := range 5 {
				p.check(t)
				more := bytes[n+i]
				p.set(t, more, i)
				if p.k.Kind() == n {
					t.Fatalf("%d things: Kind %d", n+1, p.k.Kind())
				}
				p.check(t)
				p.drop(t, more)
				if p.k.Kind() != n {
					t.Fatalf("%d things: Kind %d", n, p.k.Kind())
				}
				p.check(t)

				// And with one that goes while the one that came stays.
				p.set(t, more, i)
				p.drop(t, bytes[i*n/5])
				p.check(t)
				p.set(t, bytes[i*n/5], -i)
				p.drop(t, more)
			}
			p.check(t)
		}
	}
}

// The same number of things is reached straight, from above, by waves, and by copies: the kind is the same.
func TestKindOnSeveralWays(t *testing.T) {
	for _, bytes := range orders() {
		for n := range 257 {
			straight := filled(t, bytes[:n]...)
			above := filled(t, bytes...)
			for _, b := range bytes[n:] {
				above.drop(t, b)
			}
			below := filled(t, bytes...)
			for _, b := range bytes[:256-n] {
				below.drop(t, b)
			}
			waves := bothOf[int](t)
			for _, high := range []int{n / 2, min(256, n+60), n / 3, min(256, n+1), n} {
				for i, b := range bytes[:high] {
					waves.set(t, b, i)
				}
				for _, b := range bytes[high:] {
					waves.drop(t, b)
				}
			}
			for _, p := range []both[int]{straight, above, below, waves, above.copy(t), waves.copy(t)} {
				if p.k.Len() != n || p.k.Kind() != plainKind(n) {
					t.Fatalf("%d things: Len %d, Kind %d, not %d", n, p.k.Len(), p.k.Kind(), plainKind(n))
				}
				p.kind(t)
			}
			waves.check(t)
		}
	}
}

// P11.4

// turn does all that turns kids: it lets them grow and shrink through all kinds, and leaves them with others.
func turn(t *testing.T, p both[int]) {
	t.Helper()
	for _, n := range []int{1, 5, 17, 49, 256} {
		for i, b := range orders()[3][:n] {
			p.set(t, b, 7000+i)
		}
		p.check(t)
	}
	for _, n := range []int{49, 48, 17, 16, 5, 4, 0} {
		for _, b := range orders()[2][n:] {
			p.drop(t, b)
		}
		p.check(t)
	}
	for i, b := range orders()[1][:30] {
		p.set(t, b, 8000+i)
	}
	p.check(t)
}

func TestCopiesAreApart(t *testing.T) {
	for _, bytes := range orders() {
		for _, n := range edges() {
			p := filled(t, bytes[:n]...)
			first, second := p.copy(t), p.copy(t)
			of := first.copy(t)

			turn(t, first)
			p.check(t)
			second.check(t)
			of.check(t)

			turn(t, p)
			p.drop(t, 255)
			p.check(t)
			first.check(t)
			second.check(t)
			of.check(t)
		}
	}
}

// One step of a copy does not turn the kids, nor one of theirs the copy, whichever kind it leads into.
func TestOneStepOfACopy(t *testing.T) {
	for _, bytes := range orders() {
		for _, n := range edges() {
			p := filled(t, bytes[:n]...)
			for _, b := range []byte{bytes[0], bytes[n/2], bytes[max(n-1, 0)], bytes[min(n, 255)], 0, 255} {
				for _, step := range []func(both[int]){
					func(p both[int]) { p.set(t, b, 9999) },
					func(p both[int]) { p.drop(t, b) },
				} {
					c := p.copy(t)
					step(c)
					c.check(t)
					p.check(t)
					d := c.copy(t)
					step(d)
					c.drop(t, b)
					c.set(t, b, -1)
					d.check(t)
					c.check(t)
				}
			}
			p.check(t)
		}
	}
}
