package meter

import (
	"math"
	"slices"
	"sync"
	"testing"
)

// meterOf is a meter that counted these, one behind the other.
func meterOf(made ...int) *Meter {
	m := new(Meter)
	for _, n := range made {
		m.Made(n)
	}
	return m
}

// tells is a function that tells n, and counts how often it was asked.
func tells(n int, asked *int) func() int {
	return func() int {
		*asked++
		return n
	}
}

// P8.1

func TestMadeCount(t *testing.T) {
	for _, c := range []struct {
		made []int
		want int
	}{
		{nil, 0},
		{[]int{0}, 0},
		{[]int{0, 0, 0}, 0},
		{[]int{1}, 1},
		{[]int{1, 1, 1}, 3},
		{[]int{7, 5, 3}, 15},
		{[]int{3, 5, 7}, 15},
		{[]int{5, 0, 7, 0, 3}, 15},
		{[]int{-1}, 0},
		{[]int{-1, -2, -3}, 0},
		{[]int{4, -1}, 4},
		{[]int{-1, 4}, 4},
		{[]int{4, -4, 4}, 8},
		{[]int{math.MinInt}, 0},
		{[]int{9, math.MinInt, 1}, 10},
		{[]int{1 << 29, 1 << 30}, 3 << 29},
		{[]int{math.MaxInt}, math.MaxInt},
		{[]int{math.MaxInt - 1, 1}, math.MaxInt},
		{[]int{1, math.MaxInt - 1}, math.MaxInt},
		{[]int{math.MaxInt, 0, -1}, math.MaxInt},
	} {
		if got := meterOf(c.made...).Count(); got != c.want {
			t.Errorf("Made of %v: Count %d, not %d", c.made, got, c.want)
		}
	}
}

func TestCountBetween(t *testing.T) {
	var m Meter
	sum := 0
	for n := range 300 {
		if got := m.Count(); got != sum {
			t.Fatalf("ahead of Made(%d): Count %d, not %d", n, got, sum)
		}
		m.Made(n)
		m.Made(-n - 1)
		m.Made(0)
		sum += n
		for range 3 { // asking counts nothing
			if got := m.Count(); got != sum {
				t.Fatalf("behind Made(%d): Count %d, not %d", n, got, sum)
			}
			if got := m.Since(0); got != sum {
				t.Fatalf("behind Made(%d): Since(0) %d, not %d", n, got, sum)
			}
		}
	}
}

func TestSince(t *testing.T) {
	for _, c := range []struct{ count, was, want int }{
		{0, 0, 0},
		{0, 1, 0},
		{0, -1, 1},
		{0, math.MaxInt, 0},
		{10, 0, 10},
		{10, 1, 9},
		{10, 9, 1},
		{10, 10, 0},
		{10, 11, 0},
		{10, 1000, 0},
		{10, math.MaxInt, 0},
		{10, -1, 11},
		{10, -10, 20},
		{math.MaxInt, 0, math.MaxInt},
		{math.MaxInt, 1, math.MaxInt - 1},
		{math.MaxInt, math.MaxInt - 1, 1},
		{math.MaxInt, math.MaxInt, 0},
	} {
		m := meterOf(c.count)
		if got := m.Since(c.was); got != c.want {
			t.Errorf("Count %d: Since(%d) %d, not %d", c.count, c.was, got, c.want)
		}
		if got := m.Count(); got != c.count {
			t.Errorf("Count %d is %d behind Since(%d)", c.count, got, c.was)
		}
	}
}

// What Count told earlier, handed to Since, gives what was made from then on.
func TestSinceWhatWasTold(t *testing.T) {
	var m Meter
	made := []int{3, 0, 8, -5, 1, 1, 20}
	var earlier []int
	for _, n := range made {
		earlier = append(earlier, m.Count())
		m.Made(n)
	}
	for i, was := range earlier {
		want := 0
		for _, n := range made[i:] {
			want += max(n, 0)
		}
		if got := m.Since(was); got != want {
			t.Errorf("Since(%d), from the Made at %d on: %d, not %d", was, i, got, want)
		}
	}
	if got := m.Since(m.Count()); got != 0 {
		t.Error("Since what is told now:", got)
	}
}

func TestMetersAreApart(t *testing.T) {
	var a, b Meter
	a.Made(5)
	if a.Count() != 5 || b.Count() != 0 || b.Since(0) != 0 {
		t.Error(a.Count(), b.Count())
	}
	b.Made(2)
	if a.Count() != 5 || b.Count() != 2 {
		t.Error(a.Count(), b.Count())
	}
}

func TestMeterOfNobody(t *testing.T) {
	var m *Meter
	for _, n := range []int{math.MinInt, -1, 0, 1, 5, math.MaxInt} {
		m.Made(n)
		if got := m.Count(); got != 0 {
			t.Errorf("Count behind Made(%d): %d", n, got)
		}
		if got := m.Since(n); got != 0 {
			t.Errorf("Since(%d): %d", n, got)
		}
	}
}

// R2: no number leaves its type.
func TestMeterStaysInItsType(t *testing.T) {
	for _, made := range [][]int{
		{math.MaxInt, 1},
		{1, math.MaxInt},
		{math.MaxInt, math.MaxInt},
		{math.MaxInt, math.MaxInt, math.MaxInt, 1, math.MaxInt},
		{math.MaxInt/2 + 1, math.MaxInt/2 + 1},
	} {
		if got := meterOf(made...).Count(); got != math.MaxInt {
			t.Errorf("Made of %v: Count %d", made, got)
		}
	}
	for _, c := range []struct{ count, was, want int }{
		{0, -math.MaxInt, math.MaxInt},
		{0, -math.MaxInt + 1, math.MaxInt - 1},
		{0, math.MinInt, math.MaxInt},
		{1, -math.MaxInt, math.MaxInt},
		{1, -math.MaxInt + 1, math.MaxInt},
		{1, -math.MaxInt + 2, math.MaxInt - 1},
		{9, math.MinInt, math.MaxInt},
		{math.MaxInt, -1, math.MaxInt},
		{math.MaxInt - 1, -1, math.MaxInt},
		{math.MaxInt - 2, -1, math.MaxInt - 1},
		{math.MaxInt, math.MinInt, math.MaxInt},
	} {
		if got := meterOf(c.count).Since(c.was); got != c.want {
			t.Errorf("Count %d: Since(%d) %d, not %d", c.count, c.was, got, c.want)
		}
	}
}

// P8.2

func TestOwners(t *testing.T) {
	var o Owners
	if got := o.Last(); got != 0 {
		t.Fatal("Last, where none was given:", got)
	}
	for n := range uint64(1000) {
		for range 3 { // asking for the last one gives none
			if got := o.Last(); got != n {
				t.Fatalf("Last ahead of %d: %d", n+1, got)
			}
		}
		if got := o.Next(); got != n+1 {
			t.Fatalf("Next: %d, not %d", got, n+1)
		}
		if got := o.Last(); got != n+1 {
			t.Fatalf("Last behind %d: %d", n+1, got)
		}
	}
}

func TestOwnersAreApart(t *testing.T) {
	var a, b Owners
	a.Next()
	a.Next()
	if got := b.Last(); got != 0 {
		t.Error("Last of others:", got)
	}
	if got := b.Next(); got != 1 {
		t.Error("the first one of others:", got)
	}
	if got := a.Last(); got != 2 {
		t.Error("Last behind one of others:", got)
	}
}

func TestOwnersOfNobody(t *testing.T) {
	var o *Owners
	for range 3 {
		if got := o.Next(); got != 0 {
			t.Error("Next:", got)
		}
		if got := o.Last(); got != 0 {
			t.Error("Last:", got)
		}
	}
}

// P8.3

func TestOnce(t *testing.T) {
	for _, n := range []int{0, 1, -1, 5, math.MaxInt, math.MinInt} {
		var x Once
		if x.Told() {
			t.Fatal("told ahead of all")
		}
		first, others := 0, 0
		if got := x.Get(tells(n, &first)); got != n {
			t.Errorf("Get, at the first time: %d, not %d", got, n)
		}
		if !x.Told() {
			t.Errorf("%d was not told", n)
		}
		for other := range 5 {
			if got := x.Get(tells(n+other, &others)); got != n {
				t.Errorf("Get, then: %d, not %d", got, n)
			}
			if got := x.Get(tells(100, &first)); got != n {
				t.Errorf("Get, then: %d, not %d", got, n)
			}
			if got := x.Get(nil); got != n {
				t.Errorf("Get of no function, then: %d, not %d", got, n)
			}
			if !x.Told() {
				t.Errorf("%d is not told any more", n)
			}
		}
		if first != 1 || others != 0 {
			t.Errorf("the first one was asked %d times, others %d times", first, others)
		}
	}
}

// The same function, however often it is handed over, is asked once.
func TestOnceAsksOnce(t *testing.T) {
	var x Once
	asked := 0
	rising := func() int {
		asked++
		return asked
	}
	for range 1000 {
		if got := x.Get(rising); got != 1 {
			t.Fatal(got)
		}
	}
	if asked != 1 {
		t.Error("asked so many times:", asked)
	}
}

// Told asks nothing, and tells nothing.
func TestToldAlone(t *testing.T) {
	var x Once
	for range 3 {
		if x.Told() {
			t.Fatal("told, where nobody asked")
		}
	}
	asked := 0
	if got := x.Get(tells(4, &asked)); got != 4 || asked != 1 {
		t.Error(got, asked)
	}
}

func TestOncesAreApart(t *testing.T) {
	var a, b Once
	asked := 0
	a.Get(tells(1, &asked))
	if b.Told() {
		t.Error("told of another one")
	}
	if got := b.Get(tells(2, &asked)); got != 2 || asked != 2 {
		t.Error(got, asked)
	}
	if got := a.Get(tells(3, &asked)); got != 1 || asked != 2 {
		t.Error(got, asked)
	}
}

func TestOnceOfNobody(t *testing.T) {
	var x *Once
	asked := 0
	for range 3 {
		if got := x.Get(tells(7, &asked)); got != 0 {
			t.Error("Get:", got)
		}
		if got := x.Get(nil); got != 0 {
			t.Error("Get of no function:", got)
		}
		if x.Told() {
			t.Error("told")
		}
	}
	if asked != 0 {
		t.Error("asked so many times:", asked)
	}
}

// R1: each call ends, and none panics, whatever function is handed over.

func TestOnceOfNoFunction(t *testing.T) {
	var x Once
	asked := 0
	if got := x.Get(nil); got != 0 {
		t.Error("Get of no function:", got)
	}
	if got := x.Get(tells(7, &asked)); got != 0 || asked != 0 || !x.Told() {
		t.Error("then:", got, asked, x.Told())
	}
}

func TestOnceOfOneThatPanics(t *testing.T) {
	var x Once
	asked := 0
	panics := func() int {
		asked++
		panic("gives up")
	}
	for range 3 {
		if got := x.Get(panics); got != 0 {
			t.Error("Get of one that panics:", got)
		}
	}
	if got := x.Get(tells(7, &asked)); got != 0 || asked != 1 || !x.Told() {
		t.Error("then:", got, asked, x.Told())
	}
}

func TestOnceThatAsksForItself(t *testing.T) {
	var x Once
	asked, inner := 0, 0
	got := x.Get(func() int {
		asked++
		if n := x.Get(tells(9, &inner)); n != 0 {
			t.Error("Get, while it is made:", n)
		}
		if x.Told() {
			t.Error("told, while it is made")
		}
		return 5
	})
	if got != 5 || asked != 1 || inner != 0 || !x.Told() {
		t.Error(got, asked, inner, x.Told())
	}
	if got := x.Get(tells(9, &inner)); got != 5 || inner != 0 {
		t.Error("then:", got, inner)
	}
}

// P8.4

// given are the owners that several workers are given by one, each so many.
func given(o *Owners, workers, each int) [][]uint64 {
	lists := make([][]uint64, workers)
	var wait sync.WaitGroup
	for i := range lists {
		wait.Go(func() {
			for range each {
				lists[i] = append(lists[i], o.Next())
			}
		})
	}
	wait.Wait()
	return lists
}

func TestNoOwnerTwice(t *testing.T) {
	for _, workers := range []int{1, 8} {
		var o Owners
		var all []uint64
		for _, l := range given(&o, workers, 20000) {
			if !slices.IsSorted(l) {
				t.Errorf("%d workers: owners do not rise", workers)
			}
			all = append(all, l...)
		}
		slices.Sort(all)
		for i, n := range all {
			if n != uint64(i)+1 {
				t.Fatalf("%d workers: owner %d stands where %d should", workers, n, i+1)
			}
		}
		if got := o.Last(); got != uint64(len(all)) {
			t.Errorf("%d workers: Last %d, not %d", workers, got, len(all))
		}
	}
}
