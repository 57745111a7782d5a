package find

import (
	"bytes"
	"fmt"
	"maps"
	"math"
	"slices"
	"strings"
	"testing"

	"spunyarn/api"
	"spunyarn/canon"
	"spunyarn/node"
)

// stand is a node as it stands in a tree: the bytes on the way to it, and its part.
type stand struct {
	way, part string
	node      *node.Node
}

// plain is what a tree has, as plainly as can be: answers are held against it.
type plain struct {
	pairs  []api.Pair
	stands []stand
}

// walked is what a tree has, told by a walk through all of it.
func walked(n *node.Node) plain {
	x := plain{pairs: canon.List(n)}
	x.walk(n, "")
	return x
}

func (x *plain) walk(n *node.Node, way string) {
	if n.Kind() == 0 {
		return
	}
	s := stand{way, string(n.Part()), n}
	x.stands = append(x.stands, s)
	for b, kid := n.Next(0); kid != nil; b, kid = n.Next(int(b) + 1) {
		x.walk(kid, s.way+s.part+string([]byte{b}))
	}
}

// beginnings are all pairs with whose keys a key begins, in their order, which is that of their length.
func (x plain) beginnings(k string) []api.Pair {
	var l []api.Pair
	for _, p := range x.pairs {
		if strings.HasPrefix(k, string(p.Key)) {
			l = append(l, p)
		}
	}
	return l
}

// steps are the nodes with the bytes on whose way a key begins: just these are gone into.
func (x plain) steps(k string) int {
	count := 0
	for _, s := range x.stands {
		if strings.HasPrefix(k, s.way) {
			count++
		}
	}
	return count
}

// brief is a text, or its beginning and end, if it is long.
func brief(a any) string {
	s := fmt.Sprint(a)
	if len(s) > 300 {
		return s[:200] + " ... " + s[len(s)-100:]
	}
	return s
}

func samePair(a, b api.Pair) bool { return bytes.Equal(a.Key, b.Key) && a.Val == b.Val }

func samePairs(a, b []api.Pair) bool { return slices.EqualFunc(a, b, samePair) }

// check holds all that a key is looked for against the plain thing, twice, since what is looked for changes nothing.
func check(t *testing.T, n *node.Node, x plain, k string) {
	t.Helper()
	all := x.beginnings(k)
	var longest api.Pair
	if len(all) > 0 {
		longest = all[len(all)-1]
	}
	has := len(all) > 0 && len(longest.Key) == len(k)
	val := map[bool]uint64{true: longest.Val}[has]
	tell := func() string { return brief(canon.Shape(n)) + ", " + brief([]byte(k)) }
	for range 2 {
		if got, ok := Get(n, []byte(k)); got != val || ok != has {
			t.Fatalf("%s: Get %d, %v, not %d, %v", tell(), got, ok, val, has)
		}
		if got := Has(n, []byte(k)); got != has {
			t.Fatalf("%s: Has %v", tell(), got)
		}
		if got, ok := Longest(n, []byte(k)); !samePair(got, longest) || ok != (len(all) > 0) {
			t.Fatalf("%s: Longest %s, %v, not %s", tell(), brief(got), ok, brief(longest))
		}
		if got := Beginnings(n, []byte(k)); !samePairs(got, all) {
			t.Fatalf("%s: Beginnings %s, not %s", tell(), brief(got), brief(all))
		}
		if got, want := Steps(n, []byte(k)), x.steps(k); got != want {
			t.Fatalf("%s: Steps %d, not %d", tell(), got, want)
		}
	}
}

// built is the canonical tree of pairs; what it has are these.
func built(t *testing.T, owner uint64, l []api.Pair) (*node.Node, plain) {
	t.Helper()
	n, e := canon.Build(nil, owner, l)
	if e != api.OK {
		t.Fatal(brief(l), e)
	}
	x := walked(n)
	x.pairs = l
	return n, x
}

// pairs are pairs of keys that rise, with values of all sizes.
func pairs(keys ...string) []api.Pair {
	vals := []uint64{5, 6, 0, math.MaxUint64, 1, 10, 255, 1 << 32, 1 << 63, 9999999999}
	var l []api.Pair
	for i, k := range keys {
		l = append(l, api.Pair{Key: []byte(k), Val: vals[i%len(vals)] - uint64(i/len(vals))})
	}
	return l
}

// rising are the pairs of keys in any order, each once.
func rising(keys ...string) []api.Pair {
	keys = slices.Clone(keys)
	slices.Sort(keys)
	return pairs(slices.Compact(keys)...)
}

// edges are how many next bytes each kind has at least and at most, and some between.
func edges() []int {
	return []int{1, 2, 3, 4, 5, 6, 15, 16, 17, 18, 32, 47, 48, 49, 50, 100, 255, 256}
}

// orders are all bytes in several orders: from 0 on, from 255 down, and mixed.
func orders() [][]byte {
	var up, down, mixed []byte
	for i := range 256 {
		up = append(up, byte(i))
		down = append(down, byte(255-i))
		mixed = append(mixed, byte(i*77+19))
	}
	return [][]byte{up, down, mixed}
}

// fan is a key for each of the bytes, behind a part, with others behind some of them; and the part itself, if has.
func fan(part string, has bool, order []byte) []api.Pair {
	var keys []string
	if has {
		keys = append(keys, part)
	}
	for i, b := range order {
		k := part + string([]byte{b})
		switch i % 4 {
		case 0:
			keys = append(keys, k)
		case 1:
			keys = append(keys, k, k+"\x00")
		case 2:
			keys = append(keys, k+"more")
		case 3:
			keys = append(keys, k+"\x01", k+"\xff")
		}
	}
	return rising(keys...)
}

// some are short keys that begin alike here and there.
func some() []string {
	return []string{"", "\x00", "\x00\x00", "\x00\x00\x00", "\x00\x01", "\x00\xff", "\x01", "\x01\x02", "\x01\x02\x03",
		"\x01\x02\x03\x04", "\x01\x02\xff", "\x01\x03\x03", "\xfe", "\xff", "\xff\x00", "\xff\xff", "\xff\xff\xff"}
}

func long(n int) string { return strings.Repeat("\x07\x00\xff\x01", n/4+1)[:n] }

// steps are numbers of a fixed row.
type steps uint32

func (s *steps) below(n int) int {
	*s = *s*1664525 + 1013904223
	return int(*s>>16) % n
}

// word is a key of a fixed row, of at most most bytes out of an alphabet.
func (s *steps) word(most int, alphabet string) string {
	k := ""
	for range s.below(most + 1) {
		k += alphabet[s.below(len(alphabet)):][:1]
	}
	return k
}

// mixed are pairs of at most count keys of a fixed row.
func mixed(s *steps, count, most int, alphabet string) []api.Pair {
	var keys []string
	for range count {
		keys = append(keys, s.word(most, alphabet))
	}
	return rising(keys...)
}

// sets are many sets of pairs.
func sets() [][]api.Pair {
	all := [][]api.Pair{nil, {}}
	for i, a := range some() {
		all = append(all, pairs(a), []api.Pair{{Key: []byte(a), Val: math.MaxUint64}}, []api.Pair{{Key: []byte(a)}})
		for _, b := range some()[i+1:] {
			all = append(all, pairs(a, b), rising(a, b, "\x01\x02"), rising(a, b, "", "\xff\xff\x07"))
		}
	}
	all = append(all, pairs(some()...))
	for i, order := range orders() {
		for j, count := range edges() {
			for _, part := range []string{"", "\x00", "part", "\xff\xff"} {
				all = append(all, fan(part, (i+j)%2 == 0, order[:count]))
			}
		}
	}
	var chain, comb []string
	for i := range 60 {
		chain = append(chain, long(i))
		comb = append(comb, long(i), long(i)+"\x80", long(i)+"\x80\x80", long(i)+"\x81")
	}
	all = append(all, pairs(chain...), rising(comb...), pairs(chain[7:]...), rising(comb[11:]...))

	s := steps(1)
	for i := range 60 {
		all = append(all, mixed(&s, 1+i, 9, "\x00\xff"), mixed(&s, 1+i*3, 6, "\x00\x01\xff"), mixed(&s, 1+i*4, 3, string(orders()[2])))
	}
	return all
}

// around are keys that are like a key, or nearly: itself, one byte shorter or longer, and such as part from it at its first bytes, in its middle and at its last ones.
func around(k string) []string {
	all := []string{k, k + "\x00", k + "\x01", k + "\xff", k + "more", k + k}
	for _, at := range []int{0, 1, len(k) / 2, len(k) - 2, len(k) - 1} {
		if at < 0 || at >= len(k) {
			continue
		}
		all = append(all, k[:at], k[at:])
		for _, by := range []byte{1, 128, 255} {
			other := []byte(k)
			other[at] += by
			all = append(all, string(other))
		}
	}
	return all
}

// beside are keys that end in a node, or part there: ahead of its part, in it, and behind it by a byte that a kid stands by, and by others.
func (s stand) beside() []string {
	all := around(s.way + s.part)
	for i := range s.part {
		if i > 2 && i < len(s.part)-2 {
			continue
		}
		all = append(all, s.way+s.part[:i], s.way+s.part[:i]+string([]byte{s.part[i] + 1})+s.part[i+1:])
	}
	for _, b := range []byte{0, 1, 7, 127, 128, 254, 255} {
		all = append(all, s.way+s.part+string([]byte{b}), s.way+s.part+string([]byte{b, b}))
	}
	if b, kid := s.node.Next(0); kid != nil {
		all = append(all, s.way+s.part+string([]byte{b}), s.way+s.part+string([]byte{b - 1}), s.way+s.part+string([]byte{b + 1}))
	}
	return all
}

// looked are keys that are looked for in a tree: around its keys, and beside its nodes, some of them if there are many.
func (x plain) looked() []string {
	all := map[string]bool{}
	add := func(keys []string) {
		for _, k := range keys {
			all[k] = true
		}
	}
	add(some())
	for i := 0; i < len(x.pairs); i += len(x.pairs)/25 + 1 {
		add(around(string(x.pairs[i].Key)))
	}
	for i := 0; i < len(x.stands); i += len(x.stands)/25 + 1 {
		add(x.stands[i].beside())
	}
	return slices.Sorted(maps.Keys(all))
}

// checkAll checks a tree at each of its keys, and at all that are looked for.
func checkAll(t *testing.T, n *node.Node, x plain) {
	t.Helper()
	for _, p := range x.pairs {
		check(t, n, x, string(p.Key))
	}
	for _, k := range x.looked() {
		check(t, n, x, k)
	}
}

const writer = 3

// inner is an inner node, canonical or not.
func inner(part string, kids map[byte]*node.Node) *node.Node {
	n := node.Inner(nil, writer, []byte(part))
	for b, kid := range kids {
		n.SetKid(writer, b, kid)
	}
	return n
}

// with is an inner node that has a value from now on.
func with(val uint64, n *node.Node) *node.Node {
	n.SetVal(writer, val)
	return n
}

func leaf(part string, val uint64) *node.Node { return node.Leaf(nil, writer, []byte(part), val) }

// anyTree is a tree of a fixed row, canonical or not, of at most deep nodes below each other.
func anyTree(s *steps, deep int) *node.Node {
	part := "\x00\x01\xff\x02\x00\x07"[s.below(4):][:s.below(3)*s.below(2)]
	if deep == 1 || s.below(4) == 0 {
		return leaf(part, uint64(s.below(12)))
	}
	n := inner(part, nil)
	if s.below(2) == 0 {
		with(uint64(s.below(12)), n)
	}
	count := s.below(5)
	if s.below(40) == 0 {
		count = s.below(257)
	}
	for range count {
		n.SetKid(writer, []byte{0, 1, 128, 255, byte(s.below(256))}[s.below(5)], anyTree(s, deep-1))
	}
	return n
}

func TestExample(t *testing.T) {
	n, x := built(t, writer, []api.Pair{{Key: []byte{1}, Val: 5}, {Key: []byte{1, 2}, Val: 6}})
	if p, ok := Longest(n, []byte{1, 3}); !ok || !samePair(p, api.Pair{Key: []byte{1}, Val: 5}) {
		t.Error(p, ok)
	}
	checkAll(t, n, x)
}

// P14.1, P14.2

// Each way to go, with the answers written out.
func TestRows(t *testing.T) {
	n, x := built(t, writer, []api.Pair{
		{Key: []byte("\x01\x02"), Val: 5},
		{Key: []byte("\x01\x02\x03\x04"), Val: 6},
		{Key: []byte("\x01\x02\x03\x07"), Val: 7},
		{Key: []byte("\x01\x02\xff\x09\x09"), Val: 0},
		{Key: []byte("\x01\x80"), Val: math.MaxUint64},
	})
	if s := canon.Shape(n); s != "4<01:024<=5:034<:04L=6:07L=7>:ffL0909=0>:80L=18446744073709551615>" {
		t.Fatal(s)
	}
	for _, c := range []struct {
		k          string
		has        bool
		val        uint64
		beginnings []string
		steps      int
	}{
		{"", false, 0, nil, 1},
		{"\x00", false, 0, nil, 1},
		{"\x02", false, 0, nil, 1},
		{"\xff", false, 0, nil, 1},
		{"\x01", false, 0, nil, 1},
		{"\x01\x01", false, 0, nil, 1},
		{"\x01\x03\x04", false, 0, nil, 1},
		{"\x01\x02", true, 5, []string{"\x01\x02"}, 2},
		{"\x01\x02\x00", false, 0, []string{"\x01\x02"}, 2},
		{"\x01\x02\xfe", false, 0, []string{"\x01\x02"}, 2},
		{"\x01\x02\x03", false, 0, []string{"\x01\x02"}, 3},
		{"\x01\x02\x03\x05", false, 0, []string{"\x01\x02"}, 3},
		{"\x01\x02\x03\x04", true, 6, []string{"\x01\x02", "\x01\x02\x03\x04"}, 4},
		{"\x01\x02\x03\x04\x00", false, 0, []string{"\x01\x02", "\x01\x02\x03\x04"}, 4},
		{"\x01\x02\x03\x07", true, 7, []string{"\x01\x02", "\x01\x02\x03\x07"}, 4},
		{"\x01\x02\xff", false, 0, []string{"\x01\x02"}, 3},
		{"\x01\x02\xff\x09", false, 0, []string{"\x01\x02"}, 3},
		{"\x01\x02\xff\x08\x09", false, 0, []string{"\x01\x02"}, 3},
		{"\x01\x02\xff\x09\x08", false, 0, []string{"\x01\x02"}, 3},
		{"\x01\x02\xff\x09\x0a", false, 0, []string{"\x01\x02"}, 3},
		{"\x01\x02\xff\x09\x09", true, 0, []string{"\x01\x02", "\x01\x02\xff\x09\x09"}, 3},
		{"\x01\x02\xff\x09\x09\xff", false, 0, []string{"\x01\x02", "\x01\x02\xff\x09\x09"}, 3},
		{"\x01\x80", true, math.MaxUint64, []string{"\x01\x80"}, 2},
		{"\x01\x80\x80", false, 0, []string{"\x01\x80"}, 2},
		{"\x01\x81", false, 0, nil, 1},
	} {
		k := []byte(c.k)
		if val, has := Get(n, k); val != c.val || has != c.has || Has(n, k) != c.has {
			t.Errorf("%v: Get %d, %v, Has %v", k, val, has, Has(n, k))
		}
		var all []string
		for _, p := range Beginnings(n, k) {
			all = append(all, string(p.Key))
		}
		if !slices.Equal(all, c.beginnings) {
			t.Errorf("%v: Beginnings %q, not %q", k, all, c.beginnings)
		}
		longest, has := Longest(n, k)
		if has != (c.beginnings != nil) || has && string(longest.Key) != c.beginnings[len(c.beginnings)-1] {
			t.Errorf("%v: Longest %v, %v", k, longest, has)
		}
		if got := Steps(n, k); got != c.steps {
			t.Errorf("%v: Steps %d, not %d", k, got, c.steps)
		}
		check(t, n, x, c.k)
	}
}

func TestSets(t *testing.T) {
	for i, l := range sets() {
		n, x := built(t, []uint64{1, 2, 3, 0, 1 << 32, math.MaxUint64}[i%6], l)
		checkAll(t, n, x)
	}
}

// Nodes of every kind, asked for each byte, with a value and without.
func TestKinds(t *testing.T) {
	for i, count := range edges() {
		for j, has := range []bool{false, true} {
			l := fan("\x05", has, orders()[(i+j)%3][:count])
			n, x := built(t, writer, l)
			for b := range 256 {
				k := "\x05" + string([]byte{byte(b)})
				for _, behind := range []string{"", "\x00", "\x01", "\x02", "\xff", "m", "more", "mode", "mores"} {
					check(t, n, x, k+behind)
				}
			}
			check(t, n, x, "\x05")
			check(t, n, x, "\x04")
			check(t, n, x, "")
		}
	}
}

// Steps of canonical trees, told by their keys alone: one, and one for each point on the way from which keys go on as the key does.
func TestStepsByKeysAlone(t *testing.T) {
	begin := func(l []api.Pair, k string) []api.Pair {
		var some []api.Pair
		for _, p := range l {
			if strings.HasPrefix(string(p.Key), k) {
				some = append(some, p)
			}
		}
		return some
	}
	for _, l := range sets() {
		if len(l) == 0 || len(l) > 60 {
			continue
		}
		n, x := built(t, writer, l)
		for _, k := range x.looked() {
			want := 1
			for i := range k {
				here, on := begin(l, k[:i]), begin(l, k[:i+1])
				_, ends := slices.BinarySearchFunc(here, []byte(k[:i]), func(p api.Pair, k []byte) int { return bytes.Compare(p.Key, k) })
				if len(on) > 0 && (len(on) < len(here) || ends) {
					want++
				}
			}
			if got := Steps(n, []byte(k)); got != want {
				t.Fatalf("%s, %v: Steps %d, not %d", brief(canon.Shape(n)), []byte(k), got, want)
			}
		}
	}
}

func TestNobodys(t *testing.T) {
	var zero node.Node
	for _, n := range []*node.Node{nil, &zero, new(node.Node)} {
		for _, k := range [][]byte{nil, {}, {0}, {255}, []byte("key"), []byte(long(65535)), []byte(long(70000))} {
			if val, has := Get(n, k); val != 0 || has || Has(n, k) {
				t.Error("Get, Has:", val, has, Has(n, k))
			}
			if p, has := Longest(n, k); p.Key != nil || p.Val != 0 || has {
				t.Error("Longest:", p, has)
			}
			if l := Beginnings(n, k); len(l) != 0 {
				t.Error("Beginnings:", l)
			}
			if got := Steps(n, k); got != 0 {
				t.Error("Steps:", got)
			}
			check(t, n, plain{}, string(k))
		}
	}
}

func TestNoBytes(t *testing.T) {
	for _, c := range []struct {
		n   *node.Node
		has bool
		val uint64
	}{
		{leaf("", 5), true, 5},
		{leaf("", 0), true, 0},
		{leaf("\x00", 5), false, 0},
		{with(7, inner("", nil)), true, 7},
		{with(7, inner("", map[byte]*node.Node{0: leaf("", 1), 255: leaf("", 2)})), true, 7},
		{with(0, inner("", map[byte]*node.Node{0: leaf("", 1)})), true, 0},
		{inner("", map[byte]*node.Node{0: leaf("", 1), 255: leaf("", 2)}), false, 0},
		{with(7, inner("\x00", map[byte]*node.Node{0: leaf("", 1)})), false, 0},
		{inner("", nil), false, 0},
	} {
		shape := canon.Shape(c.n)
		for _, k := range [][]byte{nil, {}, make([]byte, 0, 9)} {
			if val, has := Get(c.n, k); val != c.val || has != c.has || Has(c.n, k) != c.has {
				t.Errorf("%s: Get %d, %v, Has %v", shape, val, has, Has(c.n, k))
			}
			if p, has := Longest(c.n, k); len(p.Key) != 0 || p.Val != c.val || has != c.has {
				t.Errorf("%s: Longest %v, %v", shape, p, has)
			}
			l := Beginnings(c.n, k)
			if len(l) != map[bool]int{true: 1}[c.has] || c.has && (len(l[0].Key) != 0 || l[0].Val != c.val) {
				t.Errorf("%s: Beginnings %v", shape, l)
			}
			if got := Steps(c.n, k); got != 1 {
				t.Errorf("%s: Steps %d", shape, got)
			}
		}
		checkAll(t, c.n, walked(c.n))
	}
}

func TestValues(t *testing.T) {
	for _, val := range []uint64{0, 1, 255, 1 << 31, 1<<32 - 1, 1 << 32, 1<<63 - 1, 1 << 63, math.MaxUint64} {
		for _, n := range []*node.Node{leaf("\x01", val), with(val, inner("\x01", map[byte]*node.Node{0: leaf("", 77)})),
			inner("", map[byte]*node.Node{1: leaf("", val), 2: leaf("", 77)})} {
			got, has := Get(n, []byte{1})
			p, _ := Longest(n, []byte{1, 9})
			l := Beginnings(n, []byte{1, 9, 9})
			if got != val || !has || p.Val != val || len(l) != 1 || l[0].Val != val {
				t.Errorf("%s: %d, %v, %v, %v", canon.Shape(n), got, has, p, l)
			}
		}
	}
}

// Many keys that are beginnings of each other: all are told, the shortest one first.
func TestChain(t *testing.T) {
	const count = 300
	var keys []string
	for i := range count {
		keys = append(keys, long(i))
	}
	n, x := built(t, writer, pairs(keys...))
	for i := range count {
		for j, k := range []string{long(i), long(i) + "\x80", long(i) + "\x80" + long(20)} {
			l := Beginnings(n, []byte(k))
			if len(l) != i+1 {
				t.Fatalf("%d: %d beginnings", i, len(l))
			}
			for size, p := range l {
				if string(p.Key) != long(size) || p.Val != x.pairs[size].Val {
					t.Fatalf("%d: %v", i, p)
				}
			}
			if _, has := Get(n, []byte(k)); has != (j == 0) || Steps(n, []byte(k)) != i+1 {
				t.Fatalf("%d: Get %v, Steps %d", i, has, Steps(n, []byte(k)))
			}
			check(t, n, x, k)
		}
	}
	check(t, n, x, long(count))
	check(t, n, x, long(count)+long(70000))

	// Of some of them.
	n, x = built(t, writer, pairs(long(0), long(1), long(7), long(8), long(200), long(65535)))
	for i := range 210 {
		check(t, n, x, long(i))
	}
	for _, size := range []int{65534, 65535, 65536, 70000} {
		check(t, n, x, long(size))
	}
}

// Keys of any length may be looked for.
func TestLongKeys(t *testing.T) {
	most := long(65535)
	for _, l := range [][]api.Pair{
		pairs(most),
		pairs("", most),
		pairs(most[:65534], most),
		pairs("", "\x07", most[:65534]+"\x01", most[:65534]+"\x02", most),
		rising(most[:40000], most[:40000]+"\x00", most[:40000]+"\xff"+most[:20000], most),
		pairs("\x07", "\x07\x00"),
	} {
		n, x := built(t, writer, l)
		for _, size := range []int{0, 1, 2, 39999, 40000, 40001, 65533, 65534, 65535, 65536, 65537, 131070, 131072, 1 << 20} {
			check(t, n, x, long(size))
			check(t, n, x, long(size)+"\x00")
			check(t, n, x, long(size)+"\xff")
			check(t, n, x, "\xff"+long(size))
		}
		for _, p := range l {
			for _, k := range around(string(p.Key)) {
				check(t, n, x, k)
			}
		}
	}
}

// Trees that are not canonical may have keys that are longer than a key may be.
func TestKeysOverMost(t *testing.T) {
	for _, n := range []*node.Node{
		leaf(long(65536), 5),
		leaf(long(200000), 5),
		with(5, inner(long(70000), nil)),
		with(5, inner(long(40000), map[byte]*node.Node{7: with(6, inner(long(40000), map[byte]*node.Node{0: leaf(long(9), 7)}))})),
	} {
		x := walked(n)
		checkAll(t, n, x)
		found := 0
		for _, p := range x.pairs {
			if val, has := Get(n, p.Key); has && val == p.Val && len(p.Key) > 65535 {
				found++
			}
		}
		if found == 0 {
			t.Error("no long key is found")
		}
	}
}

func TestNotCanonical(t *testing.T) {
	none := func() *node.Node { return inner("", nil) }
	for _, c := range []struct {
		n     *node.Node
		shape string
		k     string
		has   bool
		steps int
		pairs int
	}{
		{none(), "4<>", "", false, 1, 0},
		{none(), "4<>", "\x01", false, 1, 0},
		{inner("\x01", nil), "4<01>", "\x01", false, 1, 0},
		{inner("\x01", nil), "4<01>", "\x01\x00", false, 1, 0},
		{with(5, none()), "4<=5>", "", true, 1, 1},
		{with(5, none()), "4<=5>", "\x01", false, 1, 1},
		{with(5, inner("\x01", nil)), "4<01=5>", "\x01", true, 1, 1},
		{with(5, inner("\x01", nil)), "4<01=5>", "", false, 1, 1},
		{with(5, inner("\x01", nil)), "4<01=5>", "\x01\x01", false, 1, 1},
		{inner("", map[byte]*node.Node{7: leaf("\x08", 5)}), "4<:07L08=5>", "\x07\x08", true, 2, 1},
		{inner("", map[byte]*node.Node{7: leaf("\x08", 5)}), "4<:07L08=5>", "\x07", false, 2, 1},
		{inner("\x01", map[byte]*node.Node{7: none()}), "4<01:074<>>", "\x01\x07", false, 2, 0},
		{inner("\x01", map[byte]*node.Node{7: none()}), "4<01:074<>>", "\x01\x07\x07", false, 2, 0},
		{inner("\x01", map[byte]*node.Node{7: with(5, none())}), "4<01:074<=5>>", "\x01\x07", true, 2, 1},
		{with(9, inner("\x01", map[byte]*node.Node{0: with(5, none()), 255: none()})), "4<01=9:004<=5>:ff4<>>", "\x01\x00", true, 2, 2},
		{with(9, inner("\x01", map[byte]*node.Node{0: with(5, none()), 255: none()})), "4<01=9:004<=5>:ff4<>>", "\x01\xff", false, 2, 2},
		{inner("", map[byte]*node.Node{0: inner("", map[byte]*node.Node{0: inner("\x00", map[byte]*node.Node{0: leaf("", 5)})})}),
			"4<:004<:004<00:00L=5>>>", "\x00\x00\x00\x00", true, 4, 1},
	} {
		if s := canon.Shape(c.n); s != c.shape {
			t.Fatalf("%s, not %s", s, c.shape)
		}
		if _, has := Get(c.n, []byte(c.k)); has != c.has || Has(c.n, []byte(c.k)) != c.has || Steps(c.n, []byte(c.k)) != c.steps {
			t.Errorf("%s, %v: Get %v, Has %v, Steps %d", c.shape, []byte(c.k), has, Has(c.n, []byte(c.k)), Steps(c.n, []byte(c.k)))
		}
		x := walked(c.n)
		if len(x.pairs) != c.pairs {
			t.Errorf("%s: %v", c.shape, x.pairs)
		}
		checkAll(t, c.n, x)
	}
}

// A node may stand at several places of a tree.
func TestSameNodeTwice(t *testing.T) {
	kid, _ := built(t, 0, pairs("", "\x01\x02", "\x01\x03"))
	n := inner("\x08", nil)
	for _, b := range []byte{0, 7, 9, 200, 255} {
		n.SetKid(writer, b, kid)
	}
	checkAll(t, n, walked(n))
}

// Of a tree with a node that is reached from itself, each call ends.
func TestRing(t *testing.T) {
	n := with(5, inner("", nil))
	n.SetKid(writer, 1, n)
	n.SetKid(writer, 2, leaf("\x03", 6))
	for _, size := range []int{0, 1, 2, 300} {
		ones := bytes.Repeat([]byte{1}, size)
		if val, has := Get(n, ones); val != 5 || !has || Steps(n, ones) != size+1 {
			t.Error(size, val, has, Steps(n, ones))
		}
		if l := Beginnings(n, ones); len(l) != size+1 || len(l[size].Key) != size {
			t.Error(size, len(l))
		}
		k := append(ones, 2, 3)
		if val, has := Get(n, k); val != 6 || !has || Steps(n, k) != size+2 {
			t.Error(size, val, has, Steps(n, k))
		}
		if p, has := Longest(n, append(ones, 9, 9)); !has || len(p.Key) != size || p.Val != 5 {
			t.Error(size, len(p.Key), p.Val, has)
		}
	}
}

// The deepest tree of keys: each of its nodes is a key, and the longest one has as many bytes as it may have.
func TestDeepest(t *testing.T) {
	most := []byte(long(65535))
	n := leaf("", 65535)
	for i := 65534; i >= 0; i-- {
		n = with(uint64(i), inner("", map[byte]*node.Node{most[i]: n}))
	}
	for _, size := range []int{0, 1, 1000, 65534, 65535} {
		k := most[:size]
		if val, has := Get(n, k); val != uint64(size) || !has || Steps(n, k) != size+1 {
			t.Error(size, val, has, Steps(n, k))
		}
		other := append(slices.Clone(k), 100)
		if p, has := Longest(n, other); !has || len(p.Key) != size || p.Val != uint64(size) || Steps(n, other) != size+1 || Has(n, other) {
			t.Error(size, len(p.Key), p.Val, has, Steps(n, other), Has(n, other))
		}
	}
	if l := Beginnings(n, most[:1000]); len(l) != 1001 || len(l[1000].Key) != 1000 || l[1000].Val != 1000 {
		t.Error(len(l))
	}
}

// P14.3, P14.4

// limits looks that a key is found just if it is among the pairs, and how many steps it takes.
func limits(t *testing.T, n *node.Node, table map[string]uint64, deep int, k string) (found bool) {
	t.Helper()
	val, has := Get(n, []byte(k))
	want, among := table[k]
	if val != want || has != among || Has(n, []byte(k)) != among {
		t.Fatalf("%s, %v: Get %d, %v, Has %v", brief(canon.Shape(n)), brief([]byte(k)), val, has, Has(n, []byte(k)))
	}
	if got := Steps(n, []byte(k)); got > len(k)+1 || got > deep || got < min(deep, 1) {
		t.Fatalf("%s, %v: Steps %d", brief(canon.Shape(n)), brief([]byte(k)), got)
	}
	return has
}

func table(l []api.Pair) map[string]uint64 {
	m := map[string]uint64{}
	for _, p := range l {
		m[string(p.Key)] = p.Val
	}
	return m
}

func TestManyTrees(t *testing.T) {
	s := steps(13)
	count := [2]int{}
	for i := range 1500 {
		n := anyTree(&s, 1+i%6)
		if i%3 == 0 {
			n = n.Copy(nil, 0)
		}
		x := walked(n)
		checkAll(t, n, x)
		all, deep := table(x.pairs), canon.Depth(n)
		for range 60 {
			if limits(t, n, all, deep, s.word(6, "\x00\x01\xff\x02\x00\x07\x80")) {
				count[1]++
			} else {
				count[0]++
			}
		}
	}
	if count[0] < 1000 || count[1] < 1000 {
		t.Error("not found, found:", count)
	}
}

// All short keys of few bytes, of trees of such keys.
func TestAllShortKeys(t *testing.T) {
	alphabet := "\x00\x01\xfe\xff"
	short := []string{""}
	for i := 0; len(short[i]) < 4; i++ {
		for at := range alphabet {
			short = append(short, short[i]+alphabet[at:at+1])
		}
	}
	s := steps(7)
	for i := range 150 {
		l := mixed(&s, i, 4, alphabet)
		n, _ := built(t, uint64(i%3), l)
		all, deep, found := table(l), canon.Depth(n), 0
		for _, k := range short {
			if limits(t, n, all, deep, k) {
				found++
			}
		}
		if found != len(l) {
			t.Fatalf("%s: %d are found", brief(canon.Shape(n)), found)
		}
	}
}

func TestStepsOfSets(t *testing.T) {
	for _, l := range sets() {
		n, x := built(t, writer, l)
		all, deep, most := table(l), canon.Depth(n), 0
		for _, k := range x.looked() {
			limits(t, n, all, deep, k)
		}
		for _, p := range l {
			most = max(most, Steps(n, p.Key))
		}
		if most != deep {
			t.Fatalf("%s: a way down has %d nodes, but no key takes more than %d", brief(canon.Shape(n)), deep, most)
		}
	}
}

// R3

// What is written to a tree by its owner is told from then on: nothing is kept.
func TestToldAnew(t *testing.T) {
	n, _ := built(t, writer, pairs("\x01", "\x02", "\x03", "\x04"))
	again := func() {
		t.Helper()
		checkAll(t, n, walked(n))
	}
	again()
	n.SetKid(writer, 5, leaf("\x06", 8))
	again()
	n.SetVal(writer, 0)
	again()
	n.SetPart(writer, []byte{9, 9})
	again()
	if val, has := Get(n, []byte{9, 9, 5, 6}); val != 8 || !has || Has(n, []byte{5, 6}) {
		t.Error(val, has)
	}
	n.DropVal(writer)
	again()
	for _, b := range []byte{1, 2, 3, 4, 5} {
		n.DropKid(writer, b)
		again()
	}
}

// What is looked for changes no tree, whoever owns it.
func TestTreeStays(t *testing.T) {
	for i, l := range sets() {
		if i%7 != 0 {
			continue
		}
		for _, owner := range []uint64{0, 1, math.MaxUint64} {
			n, x := built(t, owner, l)
			was := canon.Shape(n)
			for _, k := range x.looked() {
				check(t, n, x, k)
			}
			if got := canon.Shape(n); got != was || !samePairs(canon.List(n), l) {
				t.Fatalf("%s, not %s", brief(got), brief(was))
			}
			for _, s := range x.stands {
				if s.node.Owner() != owner {
					t.Fatalf("%s: a node is owner %d's", brief(was), s.node.Owner())
				}
			}
		}
	}
}

// R4

// chained is a tree in which keys of the row that long tells are found, and the plain thing.
func chained(t *testing.T) (*node.Node, plain) {
	return built(t, writer, rising("", long(1), long(2), long(5), long(6), long(40), long(40)+"\x80", long(41)))
}

// roomy is a key that has room behind it, where 170 stands.
func roomy(k string) []byte {
	return append([]byte(k), bytes.Repeat([]byte{170}, 8)...)[:len(k)]
}

// spoil writes to a key, and to all the room behind it.
func spoil(k []byte) {
	k = k[:cap(k)]
	for i := range k {
		k[i] += 3
	}
}

func TestHandedOverStays(t *testing.T) {
	n, x := chained(t)
	for _, k := range x.looked() {
		handed := roomy(k)
		Get(n, handed)
		Has(n, handed)
		Steps(n, handed)
		longest, has := Longest(n, handed)
		all := Beginnings(n, handed)
		if string(handed) != k || !bytes.Equal(handed[len(k):len(k)+8], bytes.Repeat([]byte{170}, 8)) {
			t.Fatalf("%v: written to: %v", []byte(k), handed[:len(k)+8])
		}
		// Whoever handed the key over writes to it.
		spoil(handed)
		want := x.beginnings(k)
		if !samePairs(all, want) || has != (len(want) > 0) || has && !samePair(longest, want[len(want)-1]) {
			t.Fatalf("%v: the key is kept: %v, %v", []byte(k), longest, all)
		}
		check(t, n, x, k)
	}
}

func TestAnswersAreNew(t *testing.T) {
	n, x := chained(t)
	for _, k := range x.looked() {
		handed := roomy(k)
		longest, has := Longest(n, handed)
		if has {
			spoil(longest.Key)
		}
		all, want := Beginnings(n, handed), x.beginnings(k)
		if !samePairs(all, want) {
			t.Fatalf("%v: Longest and Beginnings share memory", []byte(k))
		}
		for i := range all {
			spoil(all[i].Key)
			if !samePairs(all[i+1:], want[i+1:]) {
				t.Fatalf("%v: keys of one answer share memory", []byte(k))
			}
			all[i] = api.Pair{}
		}
		if string(handed) != k || !bytes.Equal(handed[len(k):len(k)+8], bytes.Repeat([]byte{170}, 8)) {
			t.Fatalf("%v: an answer shares memory with the key: %v", []byte(k), handed[:len(k)+8])
		}
		check(t, n, x, k)
	}
	checkAll(t, n, x)
}

// Lists of several answers do not share memory either.
func TestListsAreNew(t *testing.T) {
	n, x := chained(t)
	k := long(45)
	first, second := Beginnings(n, []byte(k)), Beginnings(n, []byte(k))
	for i := range first {
		first[i] = api.Pair{Key: []byte("other"), Val: 99}
	}
	first = append(first, api.Pair{Key: []byte("more")})
	if !samePairs(second, x.beginnings(k)) {
		t.Error(first, second)
	}
	check(t, n, x, k)
}
