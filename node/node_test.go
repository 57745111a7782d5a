package node

import (
	"bytes"
	"math"
	"slices"
	"testing"

	"spunyarn/api"
	"spunyarn/meter"
)

// owners are several that may write to their nodes, and several that others may be taken for.
func owners() []uint64 {
	return []uint64{1, 2, 3, 4, 255, 256, 1 << 32, 1<<32 + 1, 1 << 63, math.MaxUint64 - 1, math.MaxUint64}
}

// others are owners, 0 among them, but not owner.
func others(owner uint64) []uint64 {
	return slices.DeleteFunc(append(owners(), 0, owner+1, owner-1), func(o uint64) bool { return o == owner })
}

func parts() [][]byte {
	long := make([]byte, api.MaxKey)
	for i := range long {
		long[i] = byte(i * 7)
	}
	return [][]byte{nil, {}, {0}, {255}, {1, 2}, {0, 0, 0}, []byte("part"), long, append(long, 1, 2, 3)}
}

func vals() []uint64 {
	return []uint64{0, 1, 5, 255, 1 << 32, 1 << 63, math.MaxUint64}
}

// edges are how many kids each kind has at least and at most, and some between.
func edges() []int {
	return []int{0, 1, 2, 3, 4, 5, 15, 16, 17, 32, 47, 48, 49, 100, 255, 256}
}

// orders are all bytes in several orders.
func orders() [][]byte {
	var up, down, mixed []byte
	for i := range 256 {
		up = append(up, byte(i))
		down = append(down, byte(255-i))
		mixed = append(mixed, byte(i*77+19))
	}
	return [][]byte{up, down, mixed}
}

// froms are all numbers that bytes may be, and some that they may not.
func froms() []int {
	all := []int{math.MinInt, -1 << 32, -65536, -257, -256, -255, -2}
	for n := -1; n <= 257; n++ {
		all = append(all, n)
	}
	return append(all, 511, 512, 65535, 65536, 1<<32, 1<<32+7, math.MaxInt)
}

// plain is the plainest thing that a node may be held against: an entry for each byte.
type plain struct {
	leaf  bool
	owner uint64
	part  []byte
	val   uint64
	has   bool
	kid   [256]*Node
}

func (p *plain) len() int {
	n := 0
	for _, kid := range p.kid {
		if kid != nil {
			n++
		}
	}
	return n
}

func (p *plain) occupants() int {
	if p.has {
		return p.len() + 1
	}
	return p.len()
}

// kind is told by how many kids are too many for the kinds.
func (p *plain) kind() int {
	n := p.len()
	switch {
	case p.leaf:
		return 1
	case n > 48:
		return 256
	case n > 16:
		return 48
	case n > 4:
		return 16
	}
	return 4
}

// beside is the first kid from a byte on, by steps of step, and its byte.
func (p *plain) beside(from, step int) (byte, *Node) {
	for b := from; b >= 0 && b <= 255; b += step {
		if p.kid[b] != nil {
			return byte(b), p.kid[b]
		}
	}
	return 0, nil
}

// both are a node and the plain thing that it is held against, and the meter that counts the nodes made for them.
type both struct {
	n *Node
	p *plain
	m *meter.Meter
}

func leafOf(t *testing.T, owner uint64, part []byte, val uint64) both {
	t.Helper()
	m := new(meter.Meter)
	n := Leaf(m, owner, part, val)
	made(t, n, m, 1)
	return both{n, &plain{leaf: true, owner: owner, part: bytes.Clone(part), val: val, has: true}, m}
}

func innerOf(t *testing.T, owner uint64, part []byte) both {
	t.Helper()
	m := new(meter.Meter)
	n := Inner(m, owner, part)
	made(t, n, m, 1)
	return both{n, &plain{owner: owner, part: bytes.Clone(part)}, m}
}

// filled is an inner node with a kid by each of the bytes.
func filled(t *testing.T, owner uint64, order ...byte) both {
	t.Helper()
	x := innerOf(t, owner, []byte{1, 2})
	for _, b := range order {
		x.setKid(t, b, kidOf(b))
	}
	return x
}

// kidOf is a new leaf that nobody owns.
func kidOf(b byte) *Node { return Leaf(nil, 0, []byte{b}, uint64(b)) }

// several are nodes of all kinds, leaves and inner ones, with values and without, of one owner.
func several(t *testing.T, owner uint64) []both {
	t.Helper()
	all := []both{leafOf(t, owner, nil, 0), leafOf(t, owner, []byte{7}, 5)}
	for _, count := range []int{0, 1, 4, 5, 16, 17, 48, 49, 256} {
		x := filled(t, 1, orders()[2][:count]...)
		none := x.copy(t, owner) // by Copy, since nobody may write to nodes of owner 0
		x.setVal(t, uint64(count))
		x.setPart(t, []byte{9, 0, 255})
		all = append(all, none, x.copy(t, owner))
	}
	return all
}

// made holds a node that was made, and what its meter counted, against what it should have.
func made(t *testing.T, n *Node, m *meter.Meter, count int) {
	t.Helper()
	if n == nil {
		t.Fatal("nil was made")
	}
	if got := m.Count(); got != count {
		t.Fatalf("the meter counts %d, not %d", got, count)
	}
}

// does asks for a step that must answer want, and that makes no node.
func (x both) does(t *testing.T, want api.Errno, step func() api.Errno) {
	t.Helper()
	was := x.m.Count()
	if e := step(); e != want {
		t.Fatalf("%v, not %v", e, want)
	}
	if got := x.m.Count(); got != was {
		t.Fatalf("the meter counts %d, not %d", got, was)
	}
}

func (x both) setPart(t *testing.T, part []byte) {
	t.Helper()
	x.does(t, api.OK, func() api.Errno { return x.n.SetPart(x.p.owner, part) })
	x.p.part = bytes.Clone(part)
}

func (x both) setVal(t *testing.T, val uint64) {
	t.Helper()
	x.does(t, api.OK, func() api.Errno { return x.n.SetVal(x.p.owner, val) })
	x.p.val, x.p.has = val, true
}

func (x both) dropVal(t *testing.T) {
	t.Helper()
	want := api.OK
	if !x.p.has {
		want = api.ErrNone
	}
	x.does(t, want, func() api.Errno { return x.n.DropVal(x.p.owner) })
	x.p.val, x.p.has = 0, false
}

func (x both) setKid(t *testing.T, b byte, kid *Node) {
	t.Helper()
	x.does(t, api.OK, func() api.Errno { return x.n.SetKid(x.p.owner, b, kid) })
	x.p.kid[b] = kid
}

func (x both) dropKid(t *testing.T, b byte) {
	t.Helper()
	want := api.OK
	if x.p.kid[b] == nil {
		want = api.ErrNone
	}
	x.does(t, want, func() api.Errno { return x.n.DropKid(x.p.owner, b) })
	x.p.kid[b] = nil
}

// copy is a copy of another owner, whose meter is the same.
func (x both) copy(t *testing.T, owner uint64) both {
	t.Helper()
	was := x.m.Count()
	n, p := x.n.Copy(x.m, owner), *x.p
	made(t, n, x.m, was+1)
	if n == x.n {
		t.Fatal("Copy: the node itself")
	}
	p.owner = owner
	p.part = bytes.Clone(x.p.part)
	return both{n, &p, x.m}
}

// brief holds what a node tells without its kids' bytes against the plain thing.
func (x both) brief(t *testing.T) {
	t.Helper()
	n, p := x.n, x.p
	if n.Kind() != p.kind() || n.Owner() != p.owner || n.Len() != p.len() || n.Occupants() != p.occupants() {
		t.Fatalf("Kind %d, Owner %d, Len %d, Occupants %d, not %d, %d, %d, %d",
			n.Kind(), n.Owner(), n.Len(), n.Occupants(), p.kind(), p.owner, p.len(), p.occupants())
	}
	if got := n.Part(); !bytes.Equal(got, p.part) {
		t.Fatalf("Part %v, not %v", got, p.part)
	}
	if val, has := n.Val(); val != p.val || has != p.has {
		t.Fatalf("Val %d, %v, not %d, %v", val, has, p.val, p.has)
	}
}

// check holds all that can be asked of the node against the plain thing.
func (x both) check(t *testing.T) {
	t.Helper()
	was := x.m.Count()
	x.brief(t)
	n, p := x.n, x.p
	for b := range 256 {
		if kid := n.Kid(byte(b)); kid != p.kid[b] {
			t.Fatalf("%d kids: Kid(%d): %p, not %p", p.len(), b, kid, p.kid[b])
		}
	}
	for _, from := range froms() {
		b, kid := n.Next(from)
		if wb, wkid := p.beside(max(from, 0), 1); b != wb || kid != wkid {
			t.Fatalf("%d kids: Next(%d): %d, %p, not %d, %p", p.len(), from, b, kid, wb, wkid)
		}
		b, kid = n.Prev(from)
		if wb, wkid := p.beside(min(from, 255), -1); b != wb || kid != wkid {
			t.Fatalf("%d kids: Prev(%d): %d, %p, not %d, %p", p.len(), from, b, kid, wb, wkid)
		}
	}
	if got := x.m.Count(); got != was {
		t.Fatalf("what is asked makes %d nodes", got-was)
	}
}

// rising are the bytes that Next goes through.
func rising(n *Node) []byte {
	var all []byte
	for b, kid := n.Next(0); kid != nil; b, kid = n.Next(int(b) + 1) {
		all = append(all, b)
	}
	return all
}

// falling are the bytes that Prev goes through.
func falling(n *Node) []byte {
	var all []byte
	for b, kid := n.Prev(255); kid != nil; b, kid = n.Prev(int(b) - 1) {
		all = append(all, b)
	}
	return all
}

func TestExample(t *testing.T) {
	x := leafOf(t, 3, nil, 5)
	x.does(t, api.ErrFrozen, func() api.Errno { return x.n.SetVal(4, 6) })
	x.check(t)
}

// P12.1

func TestLeaf(t *testing.T) {
	for _, owner := range append(owners(), 0) {
		for _, part := range parts() {
			for _, val := range vals() {
				leafOf(t, owner, part, val).brief(t)
			}
		}
		leafOf(t, owner, []byte{1}, 0).check(t)
		leafOf(t, owner, nil, 5).check(t)
	}
}

func TestInner(t *testing.T) {
	for _, owner := range append(owners(), 0) {
		for _, part := range parts() {
			innerOf(t, owner, part).check(t)
		}
	}
}

func TestNewOnesAreApart(t *testing.T) {
	for _, owner := range []uint64{0, 3} {
		if Leaf(nil, owner, nil, 5) == Leaf(nil, owner, nil, 5) || Inner(nil, owner, nil) == Inner(nil, owner, nil) {
			t.Error("the same node twice")
		}
	}
	a, b := innerOf(t, 3, []byte{1}), innerOf(t, 3, []byte{1})
	a.setKid(t, 1, kidOf(1))
	a.setVal(t, 4)
	a.setPart(t, []byte{2})
	b.check(t)
	c, d := leafOf(t, 3, []byte{1}, 5), leafOf(t, 3, []byte{1}, 5)
	c.setVal(t, 4)
	c.setPart(t, []byte{2})
	d.check(t)
}

func TestCopyIsTheSame(t *testing.T) {
	for _, owner := range []uint64{0, 3, math.MaxUint64} {
		for _, x := range several(t, owner) {
			for _, to := range []uint64{0, 3, 4, math.MaxUint64} {
				c := x.copy(t, to)
				c.check(t)
				c.copy(t, owner).check(t)
			}
			x.check(t)
		}
	}
}

// A copy can be written to by its owner, a node of nobody's too, and only by it.
func TestCopyBelongsToItsOwner(t *testing.T) {
	for _, owner := range []uint64{0, 3} {
		for _, x := range several(t, owner) {
			c := x.copy(t, 8)
			c.setVal(t, 77)
			c.setPart(t, []byte("other"))
			c.check(t)
			c.does(t, api.ErrFrozen, func() api.Errno { return c.n.SetVal(owner, 1) })
			c.check(t)
			frozen := c.copy(t, 0)
			for _, o := range []uint64{0, 3, 8} {
				frozen.does(t, api.ErrFrozen, func() api.Errno { return frozen.n.SetVal(o, 1) })
			}
			frozen.check(t)
			x.check(t)
		}
	}
}

func TestOwn(t *testing.T) {
	for _, owner := range owners() {
		x := filled(t, owner, 0, 7, 255)
		x.setVal(t, 9)
		was := x.m.Count()
		if got := x.n.Own(x.m, owner); got != x.n {
			t.Fatal("Own of one's own node: another one")
		}
		made(t, x.n, x.m, was)
		for i, o := range others(owner) {
			n, p := x.n.Own(x.m, o), *x.p
			if n == x.n {
				t.Fatal("Own for another owner: the node itself")
			}
			made(t, n, x.m, was+i+1)
			p.owner = o
			c := both{n, &p, x.m}
			c.check(t)
			if o != 0 {
				c.setVal(t, 10)
				c.setKid(t, 8, kidOf(8))
				c.check(t)
			}
		}
		x.check(t)
	}
}

// Nobody owns nothing, so a node of owner 0 is copied each time.
func TestOwnForNobody(t *testing.T) {
	for _, x := range several(t, 0) {
		was := x.m.Count()
		for i, o := range []uint64{0, 0, 3, 3, math.MaxUint64} {
			n := x.n.Own(x.m, o)
			made(t, n, x.m, was+i+1)
			if n == x.n {
				t.Fatalf("Own of nobody's node for %d: the node itself", o)
			}
			p := *x.p
			p.owner = o
			both{n, &p, x.m}.check(t)
		}
		x.check(t)
	}
}

func TestOwnOfEachKind(t *testing.T) {
	for _, x := range several(t, 6) {
		was := x.m.Count()
		if x.n.Own(x.m, 6) != x.n {
			t.Fatal("Own of one's own node: another one")
		}
		made(t, x.n, x.m, was)
		p := *x.p
		p.owner = 7
		c := both{x.n.Own(x.m, 7), &p, x.m}
		made(t, c.n, x.m, was+1)
		c.check(t)
		x.check(t)
	}
}

// One meter counts the nodes of several owners, made in several ways, and nothing else.
func TestMeterCountsNodes(t *testing.T) {
	var m, other meter.Meter
	m.Made(40)
	l, n := Leaf(&m, 3, []byte{1}, 5), Inner(&m, 4, []byte{2})
	made(t, l, &m, 41+1)
	made(t, n.Copy(&m, 5), &m, 43)
	made(t, l.Copy(&m, 3), &m, 44)
	made(t, l.Own(&m, 3), &m, 44)
	made(t, l.Own(&m, 4), &m, 45)
	made(t, l.Own(&m, 0), &m, 46)
	made(t, Leaf(&m, 0, nil, 0), &m, 47)
	made(t, Inner(&m, 0, nil), &m, 48)
	for b := range 256 {
		n.SetKid(4, byte(b), l)
		n.SetKid(5, byte(b), l)
		n.SetKid(4, byte(b), nil)
		n.DropKid(4, byte(b-10))
	}
	n.SetPart(4, []byte{3})
	n.SetVal(4, 1)
	n.DropVal(4)
	n.DropVal(4)
	l.DropVal(3)
	made(t, n, &m, 48)

	// A copy of a node with kids is one node. It counts for the meter that it is made with, whoever made the others.
	made(t, n.Copy(&other, 4), &other, 1)
	made(t, n.Own(&other, 9), &other, 2)
	made(t, n, &m, 48)
}

func TestNoMeter(t *testing.T) {
	for _, owner := range []uint64{0, 3} {
		none := both{Inner(nil, owner, []byte{1}), &plain{owner: owner, part: []byte{1}}, nil}
		none.check(t)
		both{Leaf(nil, owner, []byte{1}, 5), &plain{leaf: true, owner: owner, part: []byte{1}, val: 5, has: true}, nil}.check(t)
		for _, x := range several(t, owner) {
			p := *x.p
			p.owner = 7
			both{x.n.Copy(nil, 7), &p, nil}.check(t)
			both{x.n.Own(nil, 7), &p, nil}.check(t)
		}
	}
	for _, x := range several(t, 3) {
		if x.n.Own(nil, 3) != x.n {
			t.Fatal("Own of one's own node: another one")
		}
	}
}

// P12.2

func TestKindLenOccupants(t *testing.T) {
	for _, order := range orders() {
		x := innerOf(t, 3, nil)
		for i, b := range order {
			if slices.Contains(edges(), i) {
				x.check(t)
				x.setVal(t, 0)
				x.check(t)
				x.dropVal(t)
			}
			x.brief(t)
			x.setKid(t, b, kidOf(b))
		}
		x.check(t)
		x.setVal(t, 0)
		x.check(t)
		if got := x.n.Occupants(); got != 257 {
			t.Fatal("all kids and a value:", got)
		}
	}
}

func TestNextPrev(t *testing.T) {
	n := filled(t, 3, 9, 250, 3).n
	for _, c := range []struct {
		from       int
		next, prev int // below 0: none
	}{
		{math.MinInt, 3, -1},
		{-1, 3, -1},
		{0, 3, -1},
		{2, 3, -1},
		{3, 3, 3},
		{4, 9, 3},
		{8, 9, 3},
		{9, 9, 9},
		{10, 250, 9},
		{249, 250, 9},
		{250, 250, 250},
		{251, -1, 250},
		{255, -1, 250},
		{256, -1, 250},
		{256 + 3, -1, 250},
		{math.MaxInt, -1, 250},
	} {
		if b, kid := n.Next(c.from); !told(n, b, kid, c.next) {
			t.Errorf("Next(%d): %d, %p", c.from, b, kid)
		}
		if b, kid := n.Prev(c.from); !told(n, b, kid, c.prev) {
			t.Errorf("Prev(%d): %d, %p", c.from, b, kid)
		}
	}
}

// told tells whether that is n's kid by want, or the answer of none.
func told(n *Node, b byte, kid *Node, want int) bool {
	if want < 0 {
		return b == 0 && kid == nil
	}
	return int(b) == want && kid != nil && kid == n.Kid(b)
}

func TestLeastAndGreatestByte(t *testing.T) {
	for _, count := range []int{0, 2, 3, 14, 15, 46, 47, 200} {
		x := innerOf(t, 3, nil)
		for i := range count {
			x.setKid(t, byte(20+i), kidOf(1))
		}
		for _, b := range []byte{255, 0} {
			x.setKid(t, b, kidOf(b))
			x.check(t)
		}
		for _, b := range []byte{0, 255} {
			x.dropKid(t, b)
			x.check(t)
			x.dropKid(t, b)
			x.check(t)
		}
	}
}

func TestGoneThroughBothWays(t *testing.T) {
	for _, order := range orders() {
		for _, count := range edges() {
			n := filled(t, 3, order[:count]...).n
			want := slices.Sorted(slices.Values(order[:count]))
			if got := rising(n); !slices.Equal(got, want) {
				t.Fatalf("by Next: %v, not %v", got, want)
			}
			slices.Reverse(want)
			if got := falling(n); !slices.Equal(got, want) {
				t.Fatalf("by Prev: %v, not %v", got, want)
			}
		}
	}
	if l := Leaf(nil, 3, []byte{1}, 5); rising(l) != nil || falling(l) != nil {
		t.Error("a leaf has kids")
	}
}

// A kid is the node itself, so what its owner writes to it is seen.
func TestKidsThemselves(t *testing.T) {
	kid := Leaf(nil, 8, []byte{1}, 5)
	x := filled(t, 3, 1, 2)
	x.setKid(t, 4, kid)
	c := x.copy(t, 9)
	if e := x.n.Kid(4).SetVal(8, 6); e != api.OK {
		t.Fatal(e)
	}
	if val, _ := kid.Val(); val != 6 {
		t.Error("the kid's value:", val)
	}
	if val, _ := c.n.Kid(4).Val(); val != 6 {
		t.Error("the kid's value, of a copy:", val)
	}
	if x.n.Kid(4).SetVal(3, 7) != api.ErrFrozen {
		t.Error("a kid is its own owner's, not the node's")
	}
	x.check(t)
	c.check(t)
}

// P12.3

func TestSetPart(t *testing.T) {
	for _, owner := range []uint64{3, math.MaxUint64} {
		for _, x := range several(t, owner) {
			for _, part := range parts() {
				x.setPart(t, part)
				x.brief(t)
			}
			for _, part := range [][]byte{{1, 2, 3}, nil, {1}, {}, {255}} {
				x.setPart(t, part)
				x.brief(t)
			}
			x.check(t)
		}
	}
}

func TestSetVal(t *testing.T) {
	for _, owner := range []uint64{3, math.MaxUint64} {
		for _, x := range several(t, owner) {
			for _, val := range append(vals(), 7, 7, 0) {
				x.setVal(t, val)
				x.brief(t)
			}
			x.check(t)
		}
	}
}

func TestDropVal(t *testing.T) {
	for _, x := range several(t, 3) {
		if x.p.leaf {
			for range 2 {
				x.does(t, api.ErrKind, func() api.Errno { return x.n.DropVal(3) })
				x.check(t)
			}
			continue
		}
		x.dropVal(t)
		x.check(t)
		for _, val := range vals() {
			x.dropVal(t) // where there is none
			x.brief(t)
			x.setVal(t, val)
			x.brief(t)
			x.dropVal(t)
			x.brief(t)
		}
		x.check(t)
	}
}

func TestSetKidInAnyOrder(t *testing.T) {
	for _, order := range orders() {
		x := innerOf(t, 3, []byte{5})
		for _, b := range order {
			x.setKid(t, b, kidOf(b))
			x.check(t)
		}
		for _, b := range order { // in place of others
			x.setKid(t, b, kidOf(b))
			x.brief(t)
		}
		x.check(t)
		for _, b := range order {
			x.dropKid(t, b)
			x.check(t)
			x.dropKid(t, b)
			x.brief(t)
		}
		x.check(t)
	}
}

// There and back again over each step between kinds, with a value and without.
func TestStepsBetweenKinds(t *testing.T) {
	for _, order := range orders() {
		for _, count := range []int{4, 16, 48} {
			x := filled(t, 3, order[:count]...)
			for i := range 4 {
				x.check(t)
				more := order[count+i]
				x.setKid(t, more, kidOf(more))
				x.check(t)
				if i%2 == 0 {
					x.setVal(t, uint64(i))
				} else {
					x.dropVal(t)
				}
				x.setPart(t, []byte{byte(i)})
				x.check(t)
				x.dropKid(t, more)
			}
			x.check(t)
		}
	}
}

// A node may have the same kid by several bytes, nodes of any owner and kind as kids, and kids with kids.
func TestKidsOfAnyKind(t *testing.T) {
	x := innerOf(t, 3, nil)
	same := kidOf(1)
	for b := range 5 {
		x.setKid(t, byte(b), same)
	}
	x.check(t)
	for i, kid := range append(several(t, 3), several(t, 0)...) {
		x.setKid(t, byte(100+i), kid.n)
		kid.check(t)
	}
	x.check(t)
	top := innerOf(t, 3, nil)
	top.setKid(t, 0, x.n)
	top.check(t)
	x.check(t)
	for b := range 5 {
		x.dropKid(t, byte(b))
		x.check(t)
	}
}

func TestSetKidOfNil(t *testing.T) {
	for _, count := range edges() {
		x := filled(t, 3, orders()[2][:count]...)
		for b := range 256 {
			x.does(t, api.ErrArg, func() api.Errno { return x.n.SetKid(3, byte(b), nil) })
			x.brief(t)
		}
		x.does(t, api.ErrArg, func() api.Errno { return x.n.SetKid(3, 7, new(Node)) })
		x.check(t)
	}
}

func TestDropKidOfNone(t *testing.T) {
	for _, count := range edges() {
		order := orders()[2]
		x := filled(t, 3, order[:count]...)
		for _, b := range order[count:] {
			x.does(t, api.ErrNone, func() api.Errno { return x.n.DropKid(3, b) })
			x.brief(t)
		}
		x.check(t)
	}
}

func TestWhatLeavesAreNotAsked(t *testing.T) {
	for _, owner := range owners() {
		x := leafOf(t, owner, []byte{1}, 5)
		for _, b := range []byte{0, 1, 255} {
			x.does(t, api.ErrKind, func() api.Errno { return x.n.SetKid(owner, b, kidOf(b)) })
			x.does(t, api.ErrKind, func() api.Errno { return x.n.DropKid(owner, b) })
		}
		x.does(t, api.ErrKind, func() api.Errno { return x.n.DropVal(owner) })
		x.check(t)
		x.setVal(t, 6)
		x.setPart(t, []byte{2})
		x.check(t)
	}
}

// Of several errors the one that is named first: ErrNil, ErrFrozen, ErrKind, ErrArg, ErrNone.
func TestFirstError(t *testing.T) {
	leaf := leafOf(t, 3, []byte{1}, 5)
	inner := filled(t, 3, 1, 2, 3) // without a value, and without a kid by 9
	frozen := innerOf(t, 0, []byte{1})
	for _, c := range []struct {
		what string
		got  api.Errno
		want api.Errno
	}{
		{"nil, owner 0, SetPart", (*Node)(nil).SetPart(0, nil), api.ErrNil},
		{"nil, owner 0, SetVal", (*Node)(nil).SetVal(0, 5), api.ErrNil},
		{"nil, owner 0, DropVal", (*Node)(nil).DropVal(0), api.ErrNil},
		{"nil, owner 0, SetKid of nil", (*Node)(nil).SetKid(0, 9, nil), api.ErrNil},
		{"nil, owner 0, DropKid", (*Node)(nil).DropKid(0, 9), api.ErrNil},

		{"leaf, owner 0, DropVal", leaf.n.DropVal(0), api.ErrFrozen},
		{"leaf, another owner, DropVal", leaf.n.DropVal(4), api.ErrFrozen},
		{"leaf, owner 0, SetKid of nil", leaf.n.SetKid(0, 9, nil), api.ErrFrozen},
		{"leaf, another owner, SetKid of nil", leaf.n.SetKid(4, 9, nil), api.ErrFrozen},
		{"leaf, another owner, SetKid", leaf.n.SetKid(4, 9, kidOf(9)), api.ErrFrozen},
		{"leaf, owner 0, DropKid", leaf.n.DropKid(0, 9), api.ErrFrozen},
		{"leaf, another owner, DropKid", leaf.n.DropKid(4, 9), api.ErrFrozen},

		{"another owner, SetKid of nil", inner.n.SetKid(4, 9, nil), api.ErrFrozen},
		{"owner 0, SetKid of nil", inner.n.SetKid(0, 9, nil), api.ErrFrozen},
		{"another owner, no value, DropVal", inner.n.DropVal(4), api.ErrFrozen},
		{"owner 0, no value, DropVal", inner.n.DropVal(0), api.ErrFrozen},
		{"another owner, no kid, DropKid", inner.n.DropKid(4, 9), api.ErrFrozen},
		{"owner 0, no kid, DropKid", inner.n.DropKid(0, 9), api.ErrFrozen},

		{"nobody's, owner 0, SetKid of nil", frozen.n.SetKid(0, 9, nil), api.ErrFrozen},
		{"nobody's, owner 0, DropVal", frozen.n.DropVal(0), api.ErrFrozen},
		{"nobody's, owner 3, DropKid", frozen.n.DropKid(3, 9), api.ErrFrozen},

		{"leaf, SetKid of nil", leaf.n.SetKid(3, 9, nil), api.ErrKind},
		{"leaf, DropKid", leaf.n.DropKid(3, 9), api.ErrKind},
		{"inner, SetKid of nil", inner.n.SetKid(3, 9, nil), api.ErrArg},
		{"inner, no value, DropVal", inner.n.DropVal(3), api.ErrNone},
		{"inner, no kid, DropKid", inner.n.DropKid(3, 9), api.ErrNone},
	} {
		if c.got != c.want {
			t.Errorf("%s: %v, not %v", c.what, c.got, c.want)
		}
	}
	leaf.check(t)
	inner.check(t)
	frozen.check(t)
}

// many does steps steps of a fixed row of numbers with a node, and holds it against the plain thing behind each.
func many(t *testing.T, steps int, owner uint64) {
	t.Helper()
	x := innerOf(t, owner, nil)
	state := uint32(steps)
	for i := range steps {
		state = state*1664525 + 1013904223
		b := byte(state >> 24)
		what := state >> 16 & 15
		grows := i/250%2 == 0 // for a while mostly more kids come, for a while mostly more go
		switch {
		case what == 0:
			x.setPart(t, orders()[2][:b])
		case what == 1:
			x.setVal(t, uint64(state))
		case what == 2:
			x.dropVal(t)
		case what == 3: // goes on with the copy
			was := x
			x = x.copy(t, x.p.owner)
			was.setVal(t, 1)
			was.dropKid(t, b)
		case grows == (what > 5):
			x.setKid(t, b, kidOf(b))
		default:
			x.dropKid(t, b)
		}
		x.check(t)
	}
}

func TestManySteps(t *testing.T) {
	many(t, 2000, 1)
	many(t, 1000, math.MaxUint64)
}

// P12.4

func TestNobodys(t *testing.T) {
	var m meter.Meter
	for _, n := range []*Node{nil, new(Node)} {
		for range 2 { // what was refused changed nothing
			if n.Kind() != 0 || n.Owner() != 0 || len(n.Part()) != 0 || n.Len() != 0 || n.Occupants() != 0 {
				t.Error(n.Kind(), n.Owner(), n.Part(), n.Len(), n.Occupants())
			}
			if val, has := n.Val(); val != 0 || has {
				t.Error("Val:", val, has)
			}
			for b := range 256 {
				if kid := n.Kid(byte(b)); kid != nil {
					t.Errorf("Kid(%d): %p", b, kid)
				}
			}
			for _, from := range froms() {
				if b, kid := n.Next(from); b != 0 || kid != nil {
					t.Errorf("Next(%d): %d, %p", from, b, kid)
				}
				if b, kid := n.Prev(from); b != 0 || kid != nil {
					t.Errorf("Prev(%d): %d, %p", from, b, kid)
				}
			}
			for _, owner := range append(owners(), 0) {
				for i, e := range writes(n, owner, 9) {
					if e != api.ErrNil {
						t.Errorf("write %d by %d: %v", i, owner, e)
					}
				}
				if c := n.Copy(&m, owner); c != nil {
					t.Error("Copy:", c)
				}
				if c := n.Own(&m, owner); c != nil {
					t.Error("Own:", c)
				}
				if n.Copy(nil, owner) != nil || n.Own(nil, owner) != nil {
					t.Error("without a meter a node is made")
				}
			}
		}
	}
	if got := m.Count(); got != 0 {
		t.Error("the meter counts", got)
	}
}

// writes is what all that writes answers, asked of n by owner.
func writes(n *Node, owner uint64, b byte) []api.Errno {
	return []api.Errno{
		n.SetPart(owner, []byte("changed")), n.SetPart(owner, nil),
		n.SetVal(owner, 99), n.SetVal(owner, 0), n.DropVal(owner),
		n.SetKid(owner, b, kidOf(b)), n.SetKid(owner, b, nil), n.DropKid(owner, b),
	}
}

// P12.5

func TestNobodyButTheOwnerChangesIt(t *testing.T) {
	for _, owner := range []uint64{1, 3, 1<<32 + 1, 1 << 63, math.MaxUint64} {
		for _, x := range several(t, owner) {
			for _, o := range others(owner) {
				for _, b := range []byte{0, 19, 96, 200, 255} {
					for i, e := range writes(x.n, o, b) {
						if e != api.ErrFrozen {
							t.Fatalf("owner %d: write %d by %d: %v", owner, i, o, e)
						}
					}
					x.brief(t)
				}
				x.n.Copy(x.m, o).SetVal(o, 50)
				x.n.Own(x.m, o).SetVal(o, 51)
			}
			x.check(t)
		}
	}
}

func TestNobodysNodeStaysAsItIs(t *testing.T) {
	for _, x := range several(t, 0) {
		for _, o := range append(owners(), 0) {
			for _, b := range []byte{0, 19, 96, 255} {
				for i, e := range writes(x.n, o, b) {
					if e != api.ErrFrozen {
						t.Fatalf("write %d by %d: %v", i, o, e)
					}
				}
			}
			x.brief(t)
		}
		x.check(t)
	}
}

// P12.6

// turn does all that turns an inner node, through all kinds, and leaves it with others.
func (x both) turn(t *testing.T) {
	t.Helper()
	x.setPart(t, []byte("turned"))
	x.setVal(t, 7000)
	if x.p.leaf {
		x.check(t)
		return
	}
	for _, count := range []int{5, 17, 49, 256} {
		for _, b := range orders()[1][:count] {
			x.setKid(t, b, kidOf(b))
		}
		x.check(t)
	}
	for _, count := range []int{48, 16, 4, 0} {
		for _, b := range orders()[0][count:] {
			x.dropKid(t, b)
		}
		x.check(t)
	}
	x.dropVal(t)
	for _, b := range orders()[2][:30] {
		x.setKid(t, b, kidOf(b))
	}
	x.check(t)
}

func TestCopiesAreApart(t *testing.T) {
	for _, owner := range []uint64{3, 4} { // the copies' owner is the node's, and another one
		for _, x := range several(t, 3) {
			first, second := x.copy(t, owner), x.copy(t, owner)
			of := first.copy(t, owner)

			first.turn(t)
			x.check(t)
			second.check(t)
			of.check(t)

			x.turn(t)
			first.check(t)
			second.check(t)
			of.check(t)
		}
	}
}

// One step of a copy does not change the node, nor one of the node the copy, whichever kind it leads into.
func TestOneStepOfACopy(t *testing.T) {
	for _, x := range several(t, 3) {
		steps := []func(both){
			func(x both) { x.setPart(t, []byte{77}) },
			func(x both) { x.setVal(t, 77) },
		}
		if !x.p.leaf {
			steps = append(steps, func(x both) { x.dropVal(t) })
			for _, b := range orders()[2][:51] {
				steps = append(steps, func(x both) { x.setKid(t, b, kidOf(77)) }, func(x both) { x.dropKid(t, b) })
			}
		}
		for _, step := range steps {
			c := x.copy(t, 4)
			step(c)
			c.brief(t)
			x.brief(t)
			d := c.copy(t, 4)
			step(c)
			c.turn(t)
			d.brief(t)
		}
		x.check(t)
	}
}

// R4

func TestPartsHandedOverAreNotKept(t *testing.T) {
	for _, x := range []both{leafOf(t, 3, []byte("first"), 5), innerOf(t, 3, []byte("first"))} {
		for _, part := range [][]byte{[]byte("a"), []byte("part"), make([]byte, 5, 50)} {
			was := bytes.Clone(part)
			x.setPart(t, part)
			if !bytes.Equal(part, was) {
				t.Fatal("SetPart wrote to its argument")
			}
			overwrite(part)
			x.check(t)
		}
	}
	for _, length := range []int{1, 2, 8, 33, 1000} {
		part := bytes.Repeat([]byte{9}, length)
		l, n := leafOf(t, 3, part, 5), innerOf(t, 3, part)
		if !bytes.Equal(part, bytes.Repeat([]byte{9}, length)) {
			t.Fatal("an argument was written to")
		}
		overwrite(part)
		l.check(t)
		n.check(t)
	}
}

func TestPartsAnsweredAreNew(t *testing.T) {
	for _, x := range several(t, 3) {
		x.setPart(t, []byte("the part"))
		c := x.copy(t, 4)
		a, b := x.n.Part(), x.n.Part()
		overwrite(a)
		if string(b) != "the part" {
			t.Fatal("two answers share what they hold")
		}
		overwrite(b)
		overwrite(append(x.n.Part(), "behind"...))
		x.check(t)
		c.check(t)
		overwrite(c.n.Part())
		x.check(t)
		c.check(t)
		longer := append(x.n.Part(), "er"...)
		x.setPart(t, longer)
		overwrite(longer)
		x.check(t)
		c.check(t)
	}
}

// What Part answered may be handed over again, also a piece of it, and to the same node.
func TestPartsHandedOn(t *testing.T) {
	x := leafOf(t, 3, []byte("abcdef"), 5)
	x.setPart(t, x.n.Part()[2:4])
	x.check(t)
	part := x.n.Part()
	y := innerOf(t, 3, part)
	x.setPart(t, part)
	overwrite(part)
	x.check(t)
	y.check(t)
}

// overwrite writes to all bytes that a list has room for.
func overwrite(b []byte) {
	b = b[:cap(b)]
	for i := range b {
		b[i] ^= 255
	}
}
