package canon

import (
	"bytes"
	"fmt"
	"maps"
	"math"
	"slices"
	"strings"
	"testing"

	"spunyarn/api"
	"spunyarn/meter"
	"spunyarn/node"
)

// bare is a tree as plainly as can be, which answers are held against; nil is the tree of nothing.
type bare struct {
	leaf bool
	part string
	val  uint64
	has  bool
	kids map[byte]*bare
}

// canonical is the canonical tree of pairs, word by word as the chapter tells it.
func canonical(pairs map[string]uint64) *bare {
	if len(pairs) == 0 {
		return nil
	}
	if len(pairs) == 1 {
		for k, val := range pairs {
			return &bare{leaf: true, part: k, val: val, has: true}
		}
	}
	x := &bare{part: beginning(pairs), kids: map[byte]*bare{}}
	below := map[byte]map[string]uint64{}
	for k, val := range pairs {
		left := k[len(x.part):]
		if left == "" {
			x.val, x.has = val, true
			continue
		}
		if below[left[0]] == nil {
			below[left[0]] = map[string]uint64{}
		}
		below[left[0]][left[1:]] = val
	}
	for b, others := range below {
		x.kids[b] = canonical(others)
	}
	return x
}

// beginning is the longest one that all keys have.
func beginning(pairs map[string]uint64) string {
	var all []string
	for k := range pairs {
		all = append(all, k)
	}
	part := all[0]
	for _, k := range all {
		for !strings.HasPrefix(k, part) {
			part = part[:len(part)-1]
		}
	}
	return part
}

// node is the same tree, put together with layer 12's calls.
func (x *bare) node(owner uint64) *node.Node {
	if x == nil {
		return nil
	}
	if x.leaf {
		return node.Leaf(nil, owner, []byte(x.part), x.val)
	}
	const writer = 99
	n := node.Inner(nil, writer, []byte(x.part))
	if x.has {
		n.SetVal(writer, x.val)
	}
	for b, kid := range x.kids {
		n.SetKid(writer, b, kid.node(owner))
	}
	return n.Copy(nil, owner)
}

func (x *bare) bytes() []byte { return slices.Sorted(maps.Keys(x.kids)) }

// kind is told by how many kids are too many for the kinds.
func (x *bare) kind() int {
	switch n := len(x.kids); {
	case n > 48:
		return 256
	case n > 16:
		return 48
	case n > 4:
		return 16
	}
	return 4
}

func (x *bare) shape() string {
	if x == nil {
		return "."
	}
	val := ""
	if x.has {
		val = fmt.Sprintf("=%d", x.val)
	}
	if x.leaf {
		return fmt.Sprintf("L%x%s", x.part, val)
	}
	s := fmt.Sprintf("%d<%x%s", x.kind(), x.part, val)
	for _, b := range x.bytes() {
		s += fmt.Sprintf(":%02x%s", b, x.kids[b].shape())
	}
	return s + ">"
}

// told is all that a tree is asked for.
type told struct {
	list   []api.Pair
	shape  string
	points []Point
	fine   bool
	depth  int
	count  int
	nodes  int // is not asked for, but counted
}

func (x *bare) told() told {
	all := told{shape: x.shape(), fine: true}
	if x != nil {
		x.gather(&all, "", 1)
	}
	all.count = len(all.list)
	return all
}

func (x *bare) gather(all *told, way string, deep int) {
	k := way + x.part
	all.nodes++
	all.depth = max(all.depth, deep)
	if x.has {
		all.list = append(all.list, api.Pair{Key: []byte(k), Val: x.val})
		all.fine = all.fine && len(k) <= 65535
	}
	if x.leaf {
		return
	}
	all.points = append(all.points, Point{Key: []byte(k), Kind: x.kind(), Has: x.has})
	all.fine = all.fine && (len(x.kids) >= 2 || x.has && len(x.kids) == 1)
	for _, b := range x.bytes() {
		x.kids[b].gather(all, k+string([]byte{b}), deep+1)
	}
}

func samePairs(a, b []api.Pair) bool {
	return slices.EqualFunc(a, b, func(a, b api.Pair) bool { return bytes.Equal(a.Key, b.Key) && a.Val == b.Val })
}

func samePoints(a, b []Point) bool {
	return slices.EqualFunc(a, b, func(a, b Point) bool { return bytes.Equal(a.Key, b.Key) && a.Kind == b.Kind && a.Has == b.Has })
}

// brief is a text, or its beginning and end, if it is long.
func brief(a any) string {
	s := fmt.Sprint(a)
	if len(s) > 300 {
		return s[:200] + " ... " + s[len(s)-100:]
	}
	return s
}

// check holds all that a tree is asked for against the plain thing, twice, since what is asked changes nothing.
func check(t *testing.T, n *node.Node, x *bare) {
	t.Helper()
	want := x.told()
	for range 2 {
		if got := List(n); !samePairs(got, want.list) {
			t.Fatalf("%s: List %s, not %s", brief(want.shape), brief(got), brief(want.list))
		}
		if got := Shape(n); got != want.shape {
			t.Fatalf("Shape %s, not %s", brief(got), brief(want.shape))
		}
		if got := Points(n); !samePoints(got, want.points) {
			t.Fatalf("%s: Points %s, not %s", brief(want.shape), brief(got), brief(want.points))
		}
		if got := Fine(n); got != want.fine {
			t.Fatalf("%s: Fine %v", brief(want.shape), got)
		}
		if depth, count := Depth(n), Count(n); depth != want.depth || count != want.count {
			t.Fatalf("%s: Depth %d, Count %d, not %d, %d", brief(want.shape), depth, count, want.depth, want.count)
		}
	}
}

// pairs are pairs of keys that rise, with values of all sizes.
func pairs(keys ...string) []api.Pair {
	vals := []uint64{5, 6, 0, math.MaxUint64, 1, 10, 255, 1 << 32, 1 << 63, 9999999999}
	var l []api.Pair
	for i, k := range keys {
		l = append(l, api.Pair{Key: []byte(k), Val: vals[i%len(vals)] - uint64(i/len(vals))})
	}
	return l
}

// rising are the pairs of keys in any order, each once.
func rising(keys ...string) []api.Pair {
	keys = slices.Clone(keys)
	slices.Sort(keys)
	return pairs(slices.Compact(keys)...)
}

func table(l []api.Pair) map[string]uint64 {
	m := map[string]uint64{}
	for _, p := range l {
		m[string(p.Key)] = p.Val
	}
	return m
}

// edges are how many next bytes each kind has at least and at most, and some between.
func edges() []int {
	return []int{1, 2, 3, 4, 5, 6, 15, 16, 17, 18, 32, 47, 48, 49, 50, 100, 255, 256}
}

// orders are all bytes in several orders: from 0 on, from 255 down, and mixed.
func orders() [][]byte {
	var up, down, mixed []byte
	for i := range 256 {
		up = append(up, byte(i))
		down = append(down, byte(255-i))
		mixed = append(mixed, byte(i*77+19))
	}
	return [][]byte{up, down, mixed}
}

// fan is a key for each of the bytes, behind a part, with others behind some of them; and the part itself, if has.
func fan(part string, has bool, order []byte) []api.Pair {
	var keys []string
	if has {
		keys = append(keys, part)
	}
	for i, b := range order {
		k := part + string([]byte{b})
		switch i % 4 {
		case 0:
			keys = append(keys, k)
		case 1:
			keys = append(keys, k, k+"\x00")
		case 2:
			keys = append(keys, k+"more")
		case 3:
			keys = append(keys, k+"\x01", k+"\xff")
		}
	}
	return rising(keys...)
}

// some are short keys that begin alike here and there.
func some() []string {
	return []string{"", "\x00", "\x00\x00", "\x00\x00\x00", "\x00\x01", "\x00\xff", "\x01", "\x01\x02", "\x01\x02\x03",
		"\x01\x02\x03\x04", "\x01\x02\xff", "\x01\x03\x03", "\xfe", "\xff", "\xff\x00", "\xff\xff", "\xff\xff\xff"}
}

func long(n int) string { return strings.Repeat("\x07\x00\xff\x01", n/4+1)[:n] }

// steps are numbers of a fixed row.
type steps uint32

func (s *steps) below(n int) int {
	*s = *s*1664525 + 1013904223
	return int(*s>>16) % n
}

// mixed are pairs of a fixed row of keys: at most count, each of at most most bytes out of an alphabet.
func mixed(s *steps, count, most int, alphabet string) []api.Pair {
	var keys []string
	for range count {
		k := ""
		for range s.below(most + 1) {
			k += alphabet[s.below(len(alphabet)):][:1]
		}
		keys = append(keys, k)
	}
	return rising(keys...)
}

// sets are many sets of pairs that may be built.
func sets() [][]api.Pair {
	all := [][]api.Pair{nil, {}}
	for i, a := range some() {
		all = append(all, pairs(a), []api.Pair{{Key: []byte(a), Val: math.MaxUint64}}, []api.Pair{{Key: []byte(a)}})
		for _, b := range some()[i+1:] {
			all = append(all, pairs(a, b))
			for _, c := range some() {
				all = append(all, rising(a, b, c))
			}
		}
	}
	all = append(all, pairs(some()...))

	all = append(all, pairs(long(65535)), pairs("", long(65535)), pairs(long(65534), long(65535)),
		pairs("", "\x07", long(65534)+"\x01", long(65534)+"\x02", long(65534)+"\x03"),
		rising(long(40000), long(40000)+"\x00", long(40000)+"\xff"+long(20000), long(40001)+long(25533)+"\xff"))

	for _, order := range orders() {
		for _, count := range edges() {
			for _, part := range []string{"", "\x00", "part", "\xff\xff", long(600)} {
				all = append(all, fan(part, false, order[:count]), fan(part, true, order[:count]))
			}
		}
	}

	var chain, comb []string
	for i := range 60 {
		chain = append(chain, long(i))
		comb = append(comb, long(i), long(i)+"\x80", long(i)+"\x80\x80", long(i)+"\x81")
	}
	all = append(all, pairs(chain...), rising(comb...), pairs(chain[7:]...), rising(comb[11:]...))

	s := steps(1)
	var bytes []byte
	for b := range 256 {
		bytes = append(bytes, byte(b))
	}
	for i := range 60 {
		all = append(all, mixed(&s, 1+i, 9, "\x00\xff"), mixed(&s, 1+i*3, 6, "\x00\x01\xff"), mixed(&s, 1+i*4, 3, string(bytes)))
	}
	return all
}

// few are every seventh of them.
func few() [][]api.Pair {
	var l [][]api.Pair
	for i, set := range sets() {
		if i%7 == 0 {
			l = append(l, set)
		}
	}
	return l
}

// nodes are all nodes of a tree.
func nodes(n *node.Node) []*node.Node {
	if n == nil {
		return nil
	}
	all := []*node.Node{n}
	for b, kid := n.Next(0); kid != nil; b, kid = n.Next(int(b) + 1) {
		all = append(all, nodes(kid)...)
	}
	return all
}

// built is the tree that Build gives, held against the plain one; its nodes are all of that owner, and counted.
func built(t *testing.T, owner uint64, l []api.Pair) *node.Node {
	t.Helper()
	var m meter.Meter
	m.Made(7)
	n, e := Build(&m, owner, l)
	if e != api.OK {
		t.Fatal(brief(l), e)
	}
	x := canonical(table(l))
	check(t, n, x)
	if got, want := m.Count(), 7+x.told().nodes; got != want {
		t.Fatalf("%s: the meter counts %d, not %d", brief(x.shape()), got, want)
	}
	for _, o := range nodes(n) {
		if o.Owner() != owner {
			t.Fatalf("%s: a node is owner %d's, not %d's", brief(x.shape()), o.Owner(), owner)
		}
	}
	return n
}

// refused asks Build for what it must refuse, with a meter and without, for several owners; it makes nothing.
func refused(t *testing.T, want api.Errno, l ...api.Pair) {
	t.Helper()
	var m meter.Meter
	m.Made(7)
	for _, owner := range []uint64{0, 1, 3, math.MaxUint64} {
		for _, m := range []*meter.Meter{&m, nil} {
			if n, e := Build(m, owner, l); n != nil || e != want {
				t.Errorf("%s: %v, %v, not %v", brief(l), n, e, want)
			}
		}
	}
	if m.Count() != 7 {
		t.Errorf("%s: the meter counts %d", brief(l), m.Count())
	}
}

func TestExample(t *testing.T) {
	n := built(t, 3, []api.Pair{{Key: []byte{1}, Val: 5}, {Key: []byte{1, 2}, Val: 6}})
	if s := Shape(n); s != "4<01=5:02L=6>" {
		t.Fatal(s)
	}
}

// P13.1

func TestBuildNothing(t *testing.T) {
	for _, l := range [][]api.Pair{nil, {}, make([]api.Pair, 0, 4)} {
		for _, owner := range []uint64{0, 3} {
			if n := built(t, owner, l); n != nil {
				t.Error("the tree of nothing:", n)
			}
		}
	}
}

func TestBuildOne(t *testing.T) {
	for _, k := range append(some(), long(65534), long(65535)) {
		for _, val := range []uint64{0, 1, 5, 1 << 63, math.MaxUint64} {
			n := built(t, 3, []api.Pair{{Key: []byte(k), Val: val}})
			if got, has := n.Val(); n.Kind() != api.Leaf || string(n.Part()) != k || got != val || !has {
				t.Fatal(n.Kind(), brief(n.Part()), got, has)
			}
		}
	}
}

func TestBuildNoBytes(t *testing.T) {
	for _, none := range [][]byte{nil, {}} {
		n := built(t, 3, []api.Pair{{Key: none, Val: 5}, {Key: []byte{0}, Val: 6}, {Key: []byte{0, 0}, Val: 7}})
		if s := Shape(n); s != "4<=5:004<=6:00L=7>>" {
			t.Error(s)
		}
		n = built(t, 3, []api.Pair{{Key: none}})
		if s := Shape(n); s != "L=0" {
			t.Error(s)
		}
	}
}

func TestBuildShapes(t *testing.T) {
	for _, c := range []struct {
		keys  []string
		shape string
	}{
		{[]string{"\x01\x02"}, "L0102=5"},
		{[]string{"\x01", "\x02"}, "4<:01L=5:02L=6>"},
		{[]string{"\x01\x02", "\x01\x03"}, "4<01:02L=5:03L=6>"},
		{[]string{"\x01\x02\x09\x08", "\x01\x03"}, "4<01:02L0908=5:03L=6>"},
		{[]string{"", "\x01\x02"}, "4<=5:01L02=6>"},
		{[]string{"", "\x01\x02\x03", "\x01\x02\x04"}, "4<=5:014<02:03L=6:04L=0>>"},
		{[]string{"\x01", "\x01\x02", "\x01\x02\x03"}, "4<01=5:024<=6:03L=0>>"},
		{[]string{"\x01\x02", "\x01\x02\x03\x04", "\x01\xff"}, "4<01:024<=5:03L04=6>:ffL=0>"},
		{[]string{"\x00", "\x01", "\x02", "\xfe", "\xff"}, "16<:00L=5:01L=6:02L=0:feL=18446744073709551615:ffL=1>"},
		{[]string{"", "\x00", "\x01", "\x02", "\xff"}, "4<=5:00L=6:01L=0:02L=18446744073709551615:ffL=1>"},
	} {
		if s := Shape(built(t, 3, pairs(c.keys...))); s != c.shape {
			t.Errorf("%s, not %s", s, c.shape)
		}
	}
}

func TestBuildSets(t *testing.T) {
	for i, l := range sets() {
		built(t, []uint64{1, 2, 3, 0, 1 << 32, math.MaxUint64}[i%6], l)
	}
}

// At the bounds of the kinds, with a value at the point and without, wherever it stands.
func TestBuildKinds(t *testing.T) {
	for count := 2; count <= 256; count++ {
		order := orders()[count%3]
		for _, has := range []bool{false, true} {
			n := built(t, 3, fan("\x05", has, order[:count]))
			_, got := n.Val()
			if want := kindOf(count); n.Kind() != want || n.Len() != count || got != has {
				t.Fatalf("%d bytes, value %v: Kind %d, Len %d, value %v", count, has, n.Kind(), n.Len(), got)
			}
		}
	}
}

// kindOf is the kind of a point where keys go on by so many bytes.
func kindOf(count int) int {
	for _, kind := range []int{api.Node4, api.Node16, api.Node48} {
		if count <= kind {
			return kind
		}
	}
	return api.Node256
}

func TestBuildAllBytes(t *testing.T) {
	keys := []string{""}
	for _, b := range orders()[0] {
		keys = append(keys, string([]byte{b}))
	}
	for _, owner := range []uint64{0, 3} {
		n := built(t, owner, pairs(keys...))
		if n.Kind() != api.Node256 || n.Occupants() != 257 || Depth(n) != 2 || Count(n) != 257 {
			t.Error(n.Kind(), n.Occupants(), Depth(n), Count(n))
		}
	}
}

func TestBuildTooLong(t *testing.T) {
	most := long(65535)
	built(t, 3, pairs(most))
	built(t, 3, pairs("", most[:65534], most, "\xff"))
	for _, k := range []string{most + "\x00", most + "\xff", long(65537), long(131072)} {
		refused(t, api.ErrBig, pairs(k)...)
		refused(t, api.ErrBig, pairs("", k)...)
		refused(t, api.ErrBig, pairs("\x01", "\x02", k)...)
		refused(t, api.ErrBig, pairs(k, "\x08", "\x09")...)
		refused(t, api.ErrBig, pairs("\x01", most, k, "\x08")...)
		refused(t, api.ErrBig, pairs(k, k+"\x01")...)
	}
}

func TestBuildNotRising(t *testing.T) {
	for _, keys := range [][]string{
		{"", ""},
		{"\x00", ""},
		{"\x00", "\x00"},
		{"\x01", "\x00"},
		{"\xff", "\x00"},
		{"\x01\x02", "\x01"},
		{"\x01\x02", "\x01\x02"},
		{"\x01\x02\x03", "\x01\x02\x02\xff"},
		{"\x80", "\x7f"},
		{"\x01", "\x03", "\x02", "\x04"},
		{"\x02", "\x01", "\x03", "\x04"},
		{"\x01", "\x02", "\x04", "\x03"},
		{"\x01", "\x02", "\x02", "\x03"},
		{"\x01", "\x02", "\x03", "\x03"},
		{"", "\x01", "\x02", ""},
		{"\x01", "\x01\x05", "\x01"},
		{long(65535), long(65535)},
		{long(65535), long(65534)},
	} {
		refused(t, api.ErrOrder, pairs(keys...)...)
	}
	// The value does not count.
	one := api.Pair{Key: []byte{1}, Val: 5}
	refused(t, api.ErrOrder, one, one)
	refused(t, api.ErrOrder, one, api.Pair{Key: []byte{1}, Val: 6})

	// At each place among many.
	l := fan("\x05", true, orders()[0])
	for i := 1; i < len(l); i += 9 {
		other := slices.Clone(l)
		other[i-1], other[i] = other[i], other[i-1]
		refused(t, api.ErrOrder, other...)
		refused(t, api.ErrOrder, slices.Insert(slices.Clone(l), i, l[i])...)
	}
}

// A key that is too long is told ahead of the order, wherever it stands.
func TestBuildFirstError(t *testing.T) {
	big := long(65536)
	for _, keys := range [][]string{
		{big, big},
		{big, ""},
		{big, "\x02", "\x01"},
		{"\x02", "\x01", big},
		{"\x02", big, "\x01"},
		{"\x02", "\x02", big, "\x09"},
		{"\x09", "\x08", "\x07", "\x07", "\x06", big},
	} {
		refused(t, api.ErrBig, pairs(keys...)...)
	}
}

func TestBuildNewNodes(t *testing.T) {
	for _, owner := range []uint64{0, 3} {
		for _, l := range few() {
			seen := map[*node.Node]bool{}
			for range 3 {
				for _, n := range nodes(built(t, owner, l)) {
					if seen[n] {
						t.Fatalf("%s: the same node twice", brief(l))
					}
					seen[n] = true
				}
			}
		}
	}
	// Parts of one tree that are the same are several nodes too.
	n := built(t, 3, pairs("\x01\x01\x01", "\x01\x01\x02", "\x01\x02\x01", "\x01\x02\x02"))
	all := nodes(n)
	slices.SortFunc(all, func(a, b *node.Node) int { return strings.Compare(fmt.Sprintf("%p", a), fmt.Sprintf("%p", b)) })
	if len(slices.Compact(all)) != 7 {
		t.Error(len(all))
	}
}

// Its owner writes to the nodes, and nobody else; nobody writes to those of owner 0.
func TestBuildOwner(t *testing.T) {
	l := fan("part", true, orders()[2][:20])
	for _, owner := range []uint64{0, 1, 2, 99, math.MaxUint64} {
		for _, n := range nodes(built(t, owner, l)) {
			for _, o := range []uint64{0, 1, 2, 3, 99, math.MaxUint64} {
				want := api.ErrFrozen
				if o == owner && o != 0 {
					want = api.OK
				}
				if e := n.SetVal(o, 5); e != want {
					t.Fatalf("a node of owner %d: SetVal by %d: %v", owner, o, e)
				}
			}
		}
	}
}

// One meter counts what several calls make, whoever the owner is.
func TestBuildCounts(t *testing.T) {
	var m meter.Meter
	for _, c := range []struct {
		owner uint64
		keys  []string
		count int
	}{
		{3, nil, 0},
		{3, []string{"\x01"}, 1},
		{0, []string{"\x01"}, 2},
		{0, []string{"\x01", "\x02"}, 5},
		{3, []string{"\x01", "\x02"}, 8},
		{3, []string{"", "\x02"}, 10},
		{0, []string{"", "\x02"}, 12},
		{3, []string{"\x02", "\x01"}, 12},
		{1, []string{"", "\x01", "\x01\x02", "\x01\x02\x03"}, 16},
		{4, []string{"\x01\x01", "\x01\x02", "\x02\x01", "\x02\x02"}, 23},
		{4, []string{long(65536)}, 23},
	} {
		n, _ := Build(&m, c.owner, pairs(c.keys...))
		List(n)
		Fine(n)
		if m.Count() != c.count {
			t.Fatalf("%q: the meter counts %d, not %d", c.keys, m.Count(), c.count)
		}
	}
}

func TestBuildNoMeter(t *testing.T) {
	for i, l := range few() {
		n, e := Build(nil, uint64(i%3), l)
		if e != api.OK {
			t.Fatal(e)
		}
		check(t, n, canonical(table(l)))
	}
}

// The deepest canonical tree that there is: each key is the beginning of the next one, up to the longest one.
func TestBuildDeepest(t *testing.T) {
	k := []byte(long(65535))
	var l []api.Pair
	for i := range 65536 {
		l = append(l, api.Pair{Key: k[:i], Val: uint64(i)})
	}
	var m meter.Meter
	n, e := Build(&m, 0, l)
	if e != api.OK || m.Count() != 65536 || Depth(n) != 65536 || Count(n) != 65536 || !Fine(n) {
		t.Fatal(e, m.Count(), Depth(n), Count(n), Fine(n))
	}
	begin, end := "4<=0:074<=1:004<=2:ff4<=3:01", "4<=65534:ffL=65535"+strings.Repeat(">", 65535)
	if s := Shape(n); !strings.HasPrefix(s, begin) || !strings.HasSuffix(s, end) {
		t.Fatal(brief(s))
	}
	// One more on top, and the longest key is too long.
	top := node.Inner(nil, 4, nil)
	top.SetVal(4, 1)
	top.SetKid(4, 9, n)
	if Fine(top) || Depth(top) != 65537 || Count(top) != 65537 {
		t.Fatal(Fine(top), Depth(top), Count(top))
	}
}

// P13.2 and P13.3

func TestNothing(t *testing.T) {
	for _, n := range []*node.Node{nil, new(node.Node)} {
		check(t, n, nil)
		if Shape(n) != "." || !Fine(n) || Depth(n) != 0 || Count(n) != 0 || len(List(n)) != 0 || len(Points(n)) != 0 {
			t.Error(Shape(n), Fine(n), Depth(n), Count(n), List(n), Points(n))
		}
	}
}

func leaf(part string, val uint64) *bare { return &bare{leaf: true, part: part, val: val, has: true} }

func inner(part string, kids map[byte]*bare) *bare { return &bare{part: part, kids: kids} }

func with(val uint64, x *bare) *bare {
	x.val, x.has = val, true
	return x
}

func TestNotCanonical(t *testing.T) {
	for _, c := range []struct {
		x     *bare
		shape string
		fine  bool
		depth int
		list  []api.Pair
	}{
		{inner("", nil), "4<>", false, 1, nil},
		{inner("\x01\x02", nil), "4<0102>", false, 1, nil},
		{with(0, inner("", nil)), "4<=0>", false, 1, []api.Pair{{}}},
		{with(7, inner("\x01", nil)), "4<01=7>", false, 1, []api.Pair{{Key: []byte{1}, Val: 7}}},
		{inner("", map[byte]*bare{0: leaf("", 5)}), "4<:00L=5>", false, 2, []api.Pair{{Key: []byte{0}, Val: 5}}},
		{inner("\x01", map[byte]*bare{255: leaf("\x02", 5)}), "4<01:ffL02=5>", false, 2, []api.Pair{{Key: []byte{1, 255, 2}, Val: 5}}},
		{inner("", map[byte]*bare{1: inner("", nil), 2: inner("\x03", nil)}), "4<:014<>:024<03>>", false, 2, nil},
		{inner("", map[byte]*bare{1: leaf("", 5), 2: inner("\x03", map[byte]*bare{4: leaf("", 6)})}),
			"4<:01L=5:024<03:04L=6>>", false, 3, []api.Pair{{Key: []byte{1}, Val: 5}, {Key: []byte{2, 3, 4}, Val: 6}}},
		{with(4, inner("", map[byte]*bare{2: with(6, inner("", nil))})), "4<=4:024<=6>>", false, 2, []api.Pair{{Val: 4}, {Key: []byte{2}, Val: 6}}},
		{with(4, inner("", map[byte]*bare{2: inner("", nil)})), "4<=4:024<>>", false, 2, []api.Pair{{Val: 4}}},
		{inner("", map[byte]*bare{0: inner("", map[byte]*bare{0: inner("", map[byte]*bare{0: leaf("", 1)})})}),
			"4<:004<:004<:00L=1>>>", false, 4, []api.Pair{{Key: []byte{0, 0, 0}, Val: 1}}},
		{with(4, inner("", map[byte]*bare{2: leaf("", 6)})), "4<=4:02L=6>", true, 2, []api.Pair{{Val: 4}, {Key: []byte{2}, Val: 6}}},
		{inner("", map[byte]*bare{1: leaf("", 4), 2: leaf("", 6)}), "4<:01L=4:02L=6>", true, 2,
			[]api.Pair{{Key: []byte{1}, Val: 4}, {Key: []byte{2}, Val: 6}}},
	} {
		for _, owner := range []uint64{0, 3} {
			n := c.x.node(owner)
			check(t, n, c.x)
			if Shape(n) != c.shape || Fine(n) != c.fine || Depth(n) != c.depth || !samePairs(List(n), c.list) {
				t.Errorf("%s: %s, %v, %d, %v", c.shape, Shape(n), Fine(n), Depth(n), List(n))
			}
		}
	}
}

// What makes a tree not fine may stand anywhere in it.
func TestOneFaultAnywhere(t *testing.T) {
	l := fan("\x05", true, orders()[2][:50])
	whole := canonical(table(l))
	check(t, whole.node(3), whole)
	for _, fault := range []*bare{inner("", nil), inner("\x01", nil), with(5, inner("", nil)), inner("", map[byte]*bare{7: leaf("", 1)})} {
		for _, b := range whole.bytes() {
			x := canonical(table(l))
			x.kids[b] = fault
			check(t, x.node(3), x)
			if Fine(x.node(3)) {
				t.Errorf("%s: Fine", brief(x.shape()))
			}
		}
	}
}

func TestLongestKeys(t *testing.T) {
	both := func(x *bare) *bare { return inner("", map[byte]*bare{0: leaf("", 1), 9: x}) } // the byte 9, and another key
	deep := func(count int, x *bare) *bare {
		for range count {
			x = with(1, inner("", map[byte]*bare{3: x}))
		}
		return x
	}
	for _, c := range []struct {
		what string
		x    func(n int) *bare // a tree whose longest key has n bytes
	}{
		{"a leaf", func(n int) *bare { return leaf(long(n), 5) }},
		{"a leaf behind a byte", func(n int) *bare { return both(leaf(long(n-1), 5)) }},
		{"a leaf without a part", func(n int) *bare {
			return inner(long(n-1), map[byte]*bare{0: leaf("", 1), 255: leaf("", 5)})
		}},
		{"a leaf behind a part and a byte", func(n int) *bare {
			return inner(long(30000), map[byte]*bare{0: leaf("", 1), 255: leaf(long(n-30001), 5)})
		}},
		{"a leaf that is not the last", func(n int) *bare {
			return inner("", map[byte]*bare{0: leaf(long(n-1), 1), 255: leaf("", 5)})
		}},
		{"a value of an inner node of too few", func(n int) *bare { return with(5, inner(long(n), nil)) }},
		{"behind many points", func(n int) *bare { return both(deep(300, leaf(long(n-301), 5))) }},
		{"parts and bytes", func(n int) *bare {
			return inner(long(100), map[byte]*bare{1: both(both(leaf(long(n-103), 5))), 255: leaf("", 1)})
		}},
	} {
		for n := 65533; n <= 65538; n++ {
			x := c.x(n)
			got := x.node(3)
			check(t, got, x)
			if n > 65535 && Fine(got) {
				t.Errorf("%s: %d bytes are fine", c.what, n)
			}
			list := List(got)
			longest := 0
			for _, p := range list {
				longest = max(longest, len(p.Key))
			}
			if longest != n {
				t.Errorf("%s: the longest key has %d bytes, not %d", c.what, longest, n)
			}
			_, e := Build(nil, 3, list)
			if want := map[bool]api.Errno{true: api.ErrBig}[n > 65535]; e != want {
				t.Errorf("%s: Build of %d bytes: %v", c.what, n, e)
			}
		}
	}
}

// A node may stand at several places of a tree.
func TestSameNodeTwice(t *testing.T) {
	x := canonical(table(pairs("", "\x01\x02", "\x01\x03")))
	kid := x.node(0)
	n := node.Inner(nil, 3, []byte{8})
	kids := map[byte]*bare{}
	for _, b := range []byte{0, 7, 9, 200, 255} {
		n.SetKid(3, b, kid)
		kids[b] = x
	}
	check(t, n, inner("\x08", kids))
	if !Fine(n) {
		t.Error("it has the shape of a canonical tree")
	}
}

// What is written to a tree by its owner is told from then on: nothing is kept.
func TestToldAnew(t *testing.T) {
	n := built(t, 3, pairs("\x01", "\x02", "\x03", "\x04"))
	x := canonical(table(pairs("\x01", "\x02", "\x03", "\x04")))
	n.SetKid(3, 5, leaf("\x06", 8).node(3))
	x.kids[5] = leaf("\x06", 8)
	check(t, n, x)
	n.SetVal(3, 0)
	check(t, n, with(0, x))
	n.SetPart(3, []byte{9, 9})
	x.part = "\x09\x09"
	check(t, n, x)
	for _, b := range []byte{1, 2, 3, 4, 5} {
		n.DropKid(3, b)
		delete(x.kids, b)
		check(t, n, x)
	}
}

// anyTree is a tree of a fixed row, canonical or not, of at most deep nodes below each other.
func anyTree(s *steps, deep int) *bare {
	part := "\x00\x01\xff\x02\x00\x07"[s.below(4):][:s.below(3)*s.below(2)]
	if deep == 1 || s.below(3) == 0 {
		return leaf(part, uint64(s.below(12)))
	}
	x := inner(part, map[byte]*bare{})
	if s.below(2) == 0 {
		with(uint64(s.below(12)), x)
	}
	count := s.below(5)
	if s.below(40) == 0 {
		count = s.below(257)
	}
	for range count {
		x.kids[[]byte{0, 1, 128, 255, byte(s.below(256))}[s.below(5)]] = anyTree(s, deep-1)
	}
	return x
}

func TestManyTrees(t *testing.T) {
	s := steps(13)
	for i := range 4000 {
		x := anyTree(&s, 1+i%6)
		check(t, x.node(uint64(i%3)), x)
	}
}

// P13.4

// alikeCanonical tells whether a tree has the shape of the canonical tree of its pairs.
func alikeCanonical(n *node.Node) bool {
	other, e := Build(nil, 3, List(n))
	return e == api.OK && Shape(other) == Shape(n)
}

func TestFineJustIfCanonical(t *testing.T) {
	for _, l := range sets() {
		n := built(t, 3, l)
		if !Fine(n) || !alikeCanonical(n) || !samePairs(List(n), l) {
			t.Fatalf("%s: Fine %v, List %s", brief(Shape(n)), Fine(n), brief(List(n)))
		}
	}
	s := steps(4)
	fine := 0
	for i := range 4000 {
		n := anyTree(&s, 1+i%5).node(3)
		if Fine(n) != alikeCanonical(n) {
			t.Fatalf("%s: Fine %v", brief(Shape(n)), Fine(n))
		}
		if Fine(n) && Points(n) != nil {
			fine++
		}
	}
	if fine < 100 || fine > 3000 {
		t.Error("of the trees with points fine:", fine)
	}
}

// Canonical trees of which one node was written to: fine ones just where the shape is still that of a canonical tree.
func TestFineOfWhatWasWrittenTo(t *testing.T) {
	s := steps(9)
	turned := [2]int{}
	for i := range 1500 {
		n := built(t, 3, mixed(&s, 1+i%20, 5, "\x00\x01\xff"))
		all := nodes(n)
		x := all[s.below(len(all))]
		switch s.below(4) {
		case 0:
			x.SetPart(3, []byte{5, 6}[:s.below(3)])
		case 1:
			x.DropVal(3)
		case 2:
			b, _ := x.Next(0)
			x.DropKid(3, b)
		case 3:
			x.SetKid(3, 77, inner("", map[byte]*bare{1: leaf("", 1), 2: leaf("", 2)}).node(3))
		}
		if Fine(n) != alikeCanonical(n) {
			t.Fatalf("%s: Fine %v", brief(Shape(n)), Fine(n))
		}
		if Fine(n) {
			turned[1]++
		} else {
			turned[0]++
		}
	}
	if turned[0] < 50 || turned[1] < 50 {
		t.Error(turned)
	}
}

// P13.5

// parted are the points that pairs tell by themselves: the longest beginnings that two of the keys share.
func parted(l []api.Pair) []Point {
	found := map[string]bool{}
	for i, a := range l {
		for _, b := range l[i+1:] {
			n := 0
			for n < len(a.Key) && n < len(b.Key) && a.Key[n] == b.Key[n] {
				n++
			}
			found[string(a.Key[:n])] = true
		}
	}
	var points []Point
	for _, k := range slices.Sorted(maps.Keys(found)) {
		next := map[byte]bool{}
		p := Point{Key: []byte(k)}
		for _, q := range l {
			switch {
			case string(q.Key) == k:
				p.Has = true
			case strings.HasPrefix(string(q.Key), k):
				next[q.Key[len(k)]] = true
			}
		}
		p.Kind = kindOf(len(next))
		points = append(points, p)
	}
	return points
}

func TestPointsAreWhereKeysPart(t *testing.T) {
	for _, l := range sets() {
		if len(l) > 300 {
			continue
		}
		n, e := Build(nil, 3, l)
		if e != api.OK {
			t.Fatal(e)
		}
		if got, want := Points(n), parted(l); !samePoints(got, want) {
			t.Fatalf("%s: Points %s, not %s", brief(l), brief(got), brief(want))
		}
	}
}

// P13.6

func TestFewPointsAndNotDeep(t *testing.T) {
	for _, l := range sets() {
		if len(l) == 0 {
			continue
		}
		n, e := Build(nil, 3, l)
		if e != api.OK {
			t.Fatal(e)
		}
		longest := 0
		for _, p := range l {
			longest = max(longest, len(p.Key))
		}
		if points := len(Points(n)); points > len(l)-1 {
			t.Fatalf("%s: %d points of %d keys", brief(l), points, len(l))
		}
		if depth := Depth(n); depth > longest+1 || depth < 1 {
			t.Fatalf("%s: Depth %d, of keys of at most %d bytes", brief(l), depth, longest)
		}
	}
}

// There are trees that have as many points, and are as deep, as may be.
func TestMostPointsAndDeepest(t *testing.T) {
	for _, count := range []int{1, 2, 3, 60, 300} {
		var chain, pair []string
		for i := range count {
			chain = append(chain, long(i))
			pair = append(pair, strings.Repeat("\x01", i)+"\x00")
		}
		n := built(t, 3, pairs(chain...))
		if len(Points(n)) != count-1 || Depth(n) != count {
			t.Errorf("%d: %d points, Depth %d", count, len(Points(n)), Depth(n))
		}
		n = built(t, 0, rising(pair...))
		if len(Points(n)) != count-1 || Depth(n) != count {
			t.Errorf("%d: %d points, Depth %d", count, len(Points(n)), Depth(n))
		}
	}
}

// R3

// Trees of one set of pairs are told alike, whoever owns them, and whatever was built ahead.
func TestSameAnswers(t *testing.T) {
	for _, l := range few() {
		a, b := built(t, 3, l), built(t, 0, l)
		if Shape(a) != Shape(b) || !samePairs(List(a), List(b)) || !samePoints(Points(a), Points(b)) {
			t.Fatal(brief(l))
		}
	}
}

// R4

// roomy are the same pairs, whose keys have room behind them, where 170 stands.
func roomy(l []api.Pair) []api.Pair {
	other := make([]api.Pair, len(l), len(l)+3)
	for i, p := range l {
		k := bytes.Repeat([]byte{170}, len(p.Key)+8)
		copy(k, p.Key)
		other[i] = api.Pair{Key: k[:len(p.Key)], Val: p.Val}
	}
	return other
}

func TestHandedOverStays(t *testing.T) {
	for i, l := range few() {
		handed := roomy(l)
		n := built(t, uint64(i%2), handed)
		if !samePairs(handed, l) {
			t.Fatalf("%s: written to: %s", brief(l), brief(handed))
		}
		for _, p := range handed {
			if behind := p.Key[len(p.Key) : len(p.Key)+8]; !bytes.Equal(behind, bytes.Repeat([]byte{170}, 8)) {
				t.Fatalf("%s: written to behind a key: %v", brief(l), behind)
			}
		}
		// Whoever handed the pairs over writes to them.
		for j, p := range handed {
			for at := range p.Key {
				p.Key[at]++
			}
			handed[j] = api.Pair{Key: []byte("other"), Val: 1000}
		}
		check(t, n, canonical(table(l)))
	}
}

// What is refused is not written to either.
func TestRefusedStays(t *testing.T) {
	for _, keys := range [][]string{{"\x02", "\x01"}, {"\x02", "\x03", "\x01"}, {long(65536)}, {"\x01", "\x01"}} {
		l := pairs(keys...)
		handed := roomy(l)
		Build(nil, 3, handed)
		if !samePairs(handed, l) {
			t.Errorf("%s: %s", brief(l), brief(handed))
		}
	}
}

func TestAnswersAreNew(t *testing.T) {
	for _, l := range few() {
		n, x := built(t, 3, l), canonical(table(l))
		list, points := List(n), Points(n)
		for i := range list {
			spoil(list[i].Key)
			if !samePairs(list[i+1:], l[i+1:]) {
				t.Fatalf("%s: keys of one answer share memory", brief(l))
			}
			list[i] = api.Pair{}
		}
		want := x.told().points
		for i := range points {
			spoil(points[i].Key)
			if !samePoints(points[i+1:], want[i+1:]) {
				t.Fatalf("%s: points of one answer share memory", brief(l))
			}
			points[i] = Point{}
		}
		check(t, n, x)
	}
}

// spoil writes to a key, and to all the room behind it.
func spoil(k []byte) {
	k = k[:cap(k)]
	for i := range k {
		k[i] += 3
	}
}
