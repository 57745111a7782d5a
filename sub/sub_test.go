package sub

import (
	"bytes"
	"fmt"
	"maps"
	"math"
	"slices"
	"strings"
	"testing"

	"spunyarn/api"
	"spunyarn/canon"
	"spunyarn/del"
	"spunyarn/meter"
	"spunyarn/node"
	"spunyarn/put"
)

// nodes are all nodes of a tree.
func nodes(n *node.Node) []*node.Node {
	if n.Kind() == 0 {
		return nil
	}
	all := []*node.Node{n}
	for b, kid := n.Next(0); kid != nil; b, kid = n.Next(int(b) + 1) {
		all = append(all, nodes(kid)...)
	}
	return all
}

// seen is what can be told of a node, and where it stands in a tree.
type seen struct {
	node       *node.Node
	deep, by   int // how many nodes stand above it, and by which byte it is a kid
	kind       int
	owner, val uint64
	has        bool
	part       string
}

// picture is all that can be told of a tree.
func picture(n *node.Node) []seen {
	var all []seen
	var down func(n *node.Node, deep, by int)
	down = func(n *node.Node, deep, by int) {
		val, has := n.Val()
		all = append(all, seen{n, deep, by, n.Kind(), n.Owner(), val, has, string(n.Part())})
		for b, kid := n.Next(0); kid != nil; b, kid = n.Next(int(b) + 1) {
			down(kid, deep+1, int(b))
		}
	}
	down(n, 0, 0)
	return all
}

// same tells whether a tree still is as it was.
func same(n *node.Node, was []seen) bool { return slices.Equal(picture(n), was) }

// brief is a text, or its beginning and end, if it is long.
func brief(a any) string {
	s := fmt.Sprint(a)
	if len(s) > 300 {
		return s[:200] + " ... " + s[len(s)-100:]
	}
	return s
}

// built is the canonical tree of pairs.
func built(t *testing.T, owner uint64, l []api.Pair) *node.Node {
	t.Helper()
	n, e := canon.Build(nil, owner, l)
	if e != api.OK {
		t.Fatal(brief(l), e)
	}
	return n
}

// place is where a key stands among pairs that rise, or would, and whether it does.
func place(l []api.Pair, k string) (int, bool) {
	return slices.BinarySearchFunc(l, k, func(p api.Pair, k string) int { return strings.Compare(string(p.Key), k) })
}

// with are pairs that rise, with another pair in place of what they have by its key.
func with(l []api.Pair, k string, val uint64) []api.Pair {
	at, has := place(l, k)
	end := at
	if has {
		end++
	}
	return slices.Concat(l[:at], []api.Pair{{Key: []byte(k), Val: val}}, l[end:])
}

// without are pairs that rise without the one of a key.
func without(l []api.Pair, k string) []api.Pair {
	at, has := place(l, k)
	if !has {
		return l
	}
	return slices.Concat(l[:at], l[at+1:])
}

// shape is the shape of the canonical tree of pairs, by a layer that does not know of this one.
func shape(t *testing.T, l []api.Pair) string {
	t.Helper()
	return canon.Shape(built(t, 0, l))
}

// putIn puts a pair, by the layer below.
func putIn(t *testing.T, n *node.Node, k string, val, owner uint64) *node.Node {
	t.Helper()
	out, e := put.Put(n, []byte(k), val, owner, nil)
	if e != api.OK {
		t.Fatalf("%s, %s: %v", brief(canon.Shape(n)), brief([]byte(k)), e)
	}
	return out
}

// keysOf are the keys of pairs.
func keysOf(l []api.Pair) []string {
	var all []string
	for _, p := range l {
		all = append(all, string(p.Key))
	}
	return all
}

func samePair(a, b api.Pair) bool { return bytes.Equal(a.Key, b.Key) && a.Val == b.Val }

// call is one of those that tell trees, and which pairs it is to tell; false, if one of them would have too long a key.
type call struct {
	name string
	ask  func(n *node.Node, prefix []byte, owner uint64, m *meter.Meter) (*node.Node, api.Errno)
	want func(l []api.Pair, prefix string) ([]api.Pair, bool)
}

func calls() []call {
	return []call{
		{"Sub", Sub, func(l []api.Pair, prefix string) ([]api.Pair, bool) { return part(l, prefix), true }},
		{"Strip", Strip, func(l []api.Pair, prefix string) ([]api.Pair, bool) { return stripped(part(l, prefix), prefix), true }},
		{"Under", Under, under},
	}
}

// part are the pairs that begin with a prefix.
func part(l []api.Pair, prefix string) []api.Pair {
	var all []api.Pair
	for _, p := range l {
		if strings.HasPrefix(string(p.Key), prefix) {
			all = append(all, p)
		}
	}
	return all
}

// stripped are pairs that all begin with a prefix, without it.
func stripped(l []api.Pair, prefix string) []api.Pair {
	var all []api.Pair
	for _, p := range l {
		all = append(all, api.Pair{Key: p.Key[len(prefix):], Val: p.Val})
	}
	return all
}

// under are pairs with a prefix ahead of each key, and whether all of them may be keys.
func under(l []api.Pair, prefix string) ([]api.Pair, bool) {
	var all []api.Pair
	for _, p := range l {
		if len(prefix)+len(p.Key) > 65535 {
			return nil, false
		}
		all = append(all, api.Pair{Key: slices.Concat([]byte(prefix), p.Key), Val: p.Val})
	}
	return all, true
}

// grown is the canonical tree of some pairs, and what could be told of it when it was built.
type grown struct {
	n   *node.Node
	l   []api.Pair
	was []seen
	old map[*node.Node]bool
}

// grow builds a tree, whose nodes are all of one owner.
func grow(t *testing.T, owner uint64, l []api.Pair) grown {
	t.Helper()
	g := grown{n: built(t, owner, l), l: l, old: map[*node.Node]bool{}}
	g.was = picture(g.n)
	for _, o := range nodes(g.n) {
		g.old[o] = true
	}
	return g
}

// stays looks that a tree still is as it was.
func (g grown) stays(t *testing.T) {
	t.Helper()
	if !same(g.n, g.was) {
		t.Fatalf("%s is not what it was", brief(g.l))
	}
}

// fresh are how many nodes another tree has that a tree has not; they must be an owner's.
func (g grown) fresh(t *testing.T, out *node.Node, owner uint64) int {
	t.Helper()
	count := 0
	for _, o := range nodes(out) {
		if g.old[o] {
			continue
		}
		count++
		if o.Owner() != owner {
			t.Fatalf("%s: a node is owner %d's, not %d's", brief(canon.Shape(out)), o.Owner(), owner)
		}
	}
	return count
}

// check asks a tree for what a prefix makes of it, and answers the tree that comes out.
func check(t *testing.T, g grown, c call, prefix string, owner uint64) *node.Node {
	t.Helper()
	tell := func() string {
		return fmt.Sprint(c.name, " of ", brief(canon.Shape(g.n)), ", ", brief([]byte(prefix)), ", by ", owner)
	}
	var m meter.Meter
	m.Made(7)
	out, e := c.ask(g.n, []byte(prefix), owner, &m)
	made := m.Since(7)
	want, may := c.want(g.l, prefix)
	if !may {
		if out != nil || e != api.ErrBig || made != 0 {
			t.Fatalf("%s: %v, %v, %d made, not ErrBig", tell(), out, e, made)
		}
		return nil
	}
	if got, want := canon.Shape(out), shape(t, want); got != want || e != api.OK {
		t.Fatalf("%s: %s, %v, not %s", tell(), brief(got), e, brief(want))
	}
	itself := slices.EqualFunc(want, g.l, samePair)
	if made > 1 || itself && (made != 0 || out != g.n) {
		t.Fatalf("%s: %d nodes are made, or it is not the tree itself", tell(), made)
	}
	if fresh := g.fresh(t, out, owner); fresh != made {
		t.Fatalf("%s: %d nodes are new, but the meter counts %d", tell(), fresh, made)
	}
	return out
}

// checkAll asks the tree of some pairs, by its owner and by another one, for what many prefixes make of it: the keys, and such as end in all its nodes and beside them. What is more than can be asked is thinned out.
func checkAll(t *testing.T, l []api.Pair, most int) {
	t.Helper()
	most = max(most/(len(l)+1), 12)
	g := grow(t, 3, l)
	keys, others := keysOf(l), looked(g.n)
	var prefixes []string
	for i := most % 3; i < len(keys); i += len(keys)/most + 1 {
		prefixes = append(prefixes, keys[i])
	}
	for i := most % 5; i < len(others); i += len(others)/most + 1 {
		prefixes = append(prefixes, others[i])
	}
	for i, prefix := range append(prefixes, "") {
		for _, c := range calls() {
			if c.name == "Under" && i%5 != 0 {
				continue
			}
			check(t, g, c, prefix, 4)
			check(t, g, c, prefix, 3)
		}
	}
	g.stays(t)
}

// pairs are pairs of keys that rise, with values of all sizes.
func pairs(keys ...string) []api.Pair {
	vals := []uint64{5, 6, 0, math.MaxUint64, 1, 10, 255, 1 << 32, 1 << 63, 9999999999}
	var l []api.Pair
	for i, k := range keys {
		l = append(l, api.Pair{Key: []byte(k), Val: vals[i%len(vals)] - uint64(i/len(vals))})
	}
	return l
}

// rising are the pairs of keys in any order, each once.
func rising(keys ...string) []api.Pair {
	keys = slices.Clone(keys)
	slices.Sort(keys)
	return pairs(slices.Compact(keys)...)
}

// edges are how many next bytes each kind has at least and at most, and some between.
func edges() []int {
	return []int{1, 2, 3, 4, 5, 6, 15, 16, 17, 18, 32, 47, 48, 49, 50, 100, 255, 256}
}

// orders are all bytes in several orders: from 0 on, from 255 down, and mixed.
func orders() [][]byte {
	var up, down, mixed []byte
	for i := range 256 {
		up = append(up, byte(i))
		down = append(down, byte(255-i))
		mixed = append(mixed, byte(i*77+19))
	}
	return [][]byte{up, down, mixed}
}

// fan is a key for each of the bytes, behind a part, with others behind some of them; and the part itself, if has.
func fan(part string, has bool, order []byte) []api.Pair {
	var keys []string
	if has {
		keys = append(keys, part)
	}
	for i, b := range order {
		k := part + string([]byte{b})
		switch i % 4 {
		case 0:
			keys = append(keys, k)
		case 1:
			keys = append(keys, k, k+"\x00")
		case 2:
			keys = append(keys, k+"more")
		case 3:
			keys = append(keys, k+"\x01", k+"\xff")
		}
	}
	return rising(keys...)
}

// some are short keys that begin alike here and there.
func some() []string {
	return []string{"", "\x00", "\x00\x00", "\x00\x00\x00", "\x00\x01", "\x00\xff", "\x01", "\x01\x02", "\x01\x02\x03",
		"\x01\x02\x03\x04", "\x01\x02\xff", "\x01\x03\x03", "\xfe", "\xff", "\xff\x00", "\xff\xff", "\xff\xff\xff"}
}

func long(n int) string { return strings.Repeat("\x07\x00\xff\x01", n/4+1)[:n] }

// steps are numbers of a fixed row.
type steps uint32

func (s *steps) below(n int) int {
	*s = *s*1664525 + 1013904223
	return int(*s>>16) % n
}

// word is a key of a fixed row, of at most most bytes out of an alphabet.
func (s *steps) word(most int, alphabet string) string {
	k := ""
	for range s.below(most + 1) {
		k += alphabet[s.below(len(alphabet)):][:1]
	}
	return k
}

// mixed are pairs of at most count keys of a fixed row.
func mixed(s *steps, count, most int, alphabet string) []api.Pair {
	var keys []string
	for range count {
		keys = append(keys, s.word(most, alphabet))
	}
	return rising(keys...)
}

// sets are many sets of pairs.
func sets() [][]api.Pair {
	all := [][]api.Pair{nil, {}}
	for i, a := range some() {
		all = append(all, pairs(a), []api.Pair{{Key: []byte(a), Val: math.MaxUint64}}, []api.Pair{{Key: []byte(a)}})
		for _, b := range some()[i+1:] {
			all = append(all, pairs(a, b), rising(a, b, "\x01\x02"), rising(a, b, "", "\xff\xff\x07"))
		}
	}
	all = append(all, pairs(some()...))
	for i, order := range orders() {
		for j, count := range edges() {
			for k, part := range []string{"", "\x00", "part", "\xff\xff"} {
				all = append(all, fan(part, (i+j+k)%2 == 0, order[:count]))
			}
		}
	}
	var chain, comb []string
	for i := range 60 {
		chain = append(chain, long(i))
		comb = append(comb, long(i), long(i)+"\x80", long(i)+"\x80\x80", long(i)+"\x81")
	}
	all = append(all, pairs(chain...), rising(comb...), pairs(chain[7:]...), rising(comb[11:]...))

	s := steps(1)
	for i := range 60 {
		all = append(all, mixed(&s, 1+i, 9, "\x00\xff"), mixed(&s, 1+i*3, 6, "\x00\x01\xff"), mixed(&s, 1+i*4, 3, string(orders()[2])))
	}
	return all
}

// few are every seventh of them.
func few() [][]api.Pair {
	var l [][]api.Pair
	for i, set := range sets() {
		if i%7 == 0 {
			l = append(l, set)
		}
	}
	return l
}

// around are keys that are like a key, or nearly: itself, one byte shorter or longer, and such as part from it at its first bytes, in its middle and at its last ones.
func around(k string) []string {
	all := []string{k, k + "\x00", k + "\x01", k + "\xff", k + "more", k + k}
	for _, at := range []int{0, 1, len(k) / 2, len(k) - 2, len(k) - 1} {
		if at < 0 || at >= len(k) {
			continue
		}
		all = append(all, k[:at], k[at:])
		for _, by := range []byte{1, 128, 255} {
			other := []byte(k)
			other[at] += by
			all = append(all, string(other))
		}
	}
	return all
}

// beside are keys that end in a node, or part there to either side: ahead of its part, in it, and behind it by bytes that kids stand by, and by those next to them and others.
func beside(way string, n *node.Node) []string {
	part := string(n.Part())
	all := around(way + part)
	for i := range part {
		all = append(all, way+part[:i], way+part[:i]+string([]byte{part[i] + 1})+part[i+1:], way+part[:i]+string([]byte{part[i] - 1})+part[i+1:])
	}
	for _, b := range []byte{0, 1, 7, 127, 128, 254, 255} {
		all = append(all, way+part+string([]byte{b}), way+part+string([]byte{b, b}))
	}
	for b, kid := n.Next(0); kid != nil; b, kid = n.Next(int(b) + 1) {
		all = append(all, way+part+string([]byte{b - 1}), way+part+string([]byte{b + 1}))
		all = append(all, beside(way+part+string([]byte{b}), kid)...)
	}
	return all
}

// looked are keys that are asked for: some short ones, and those beside the nodes of a tree, each once, in a fixed order that mixes them.
func looked(n *node.Node) []string {
	all := map[string]bool{}
	for _, k := range slices.Concat(some(), beside("", n)) {
		all[k] = true
	}
	keys := slices.Sorted(maps.Keys(all))
	s := steps(len(keys))
	for i := range keys {
		j := i + s.below(len(keys)-i)
		keys[i], keys[j] = keys[j], keys[i]
	}
	return keys
}

func TestExample(t *testing.T) {
	var m meter.Meter
	n := built(t, 3, []api.Pair{{Key: []byte{1}, Val: 5}, {Key: []byte{1, 2}, Val: 6}})
	out, e := Strip(n, []byte{1}, 4, &m)
	if s := canon.Shape(out); s != "4<=5:02L=6>" || e != api.OK || m.Count() != 1 || out.Owner() != 4 {
		t.Error(s, e, m.Count(), out.Owner())
	}
	if s := canon.Shape(n); s != "4<01=5:02L=6>" {
		t.Error(s)
	}
}

// P18.1, P18.2

// many are pairs whose tree has nodes of several sorts.
func many() []api.Pair {
	return []api.Pair{
		{Key: []byte("\x05\x02"), Val: 5},
		{Key: []byte("\x05\x02\x03\x04"), Val: 6},
		{Key: []byte("\x05\x02\x03\x07"), Val: 0},
		{Key: []byte("\x05\x02\xf0\x09\x09"), Val: 7},
		{Key: []byte("\x05\x80\x01\x02\x03\x10"), Val: math.MaxUint64},
		{Key: []byte("\x05\x80\x01\x02\x03\x10\x00"), Val: 8},
		{Key: []byte("\x05\x80\x01\x02\x03\x20\xff"), Val: 9},
		{Key: []byte("\x05\x81"), Val: 10},
	}
}

// Each place where a prefix can end, with the answers written out.
func TestRows(t *testing.T) {
	const was = "4<05:024<=5:034<:04L=6:07L=0>:f0L0909=7>:804<010203:104<=18446744073709551615:00L=8>:20Lff=9>:81L=10>"
	g := grow(t, 3, many())
	if s := canon.Shape(g.n); s != was {
		t.Fatal(s)
	}
	for _, c := range []struct{ prefix, sub, strip string }{
		// No bytes; the top node's part, to its end, and aside from it.
		{"", was, was},
		{"\x05", was, "4<" + was[4:]},
		{"\x04", ".", "."},
		{"\x06", ".", "."},
		{"\xff", ".", "."},
		{"\x00\x05", ".", "."},

		// By a byte that no kid stands by.
		{"\x05\x00", ".", "."},
		{"\x05\x01", ".", "."},
		{"\x05\x03", ".", "."},
		{"\x05\x82", ".", "."},
		{"\x05\xff\x02", ".", "."},
		{"\x05\x02\x04", ".", "."},
		{"\x05\x02\x03\x05", ".", "."},
		{"\x05\x02\x03\x05\x04", ".", "."},

		// Ahead of a node with a value, and one without; a leaf.
		{"\x05\x02", "4<0502=5:034<:04L=6:07L=0>:f0L0909=7>", "4<=5:034<:04L=6:07L=0>:f0L0909=7>"},
		{"\x05\x02\x03", "4<050203:04L=6:07L=0>", "4<:04L=6:07L=0>"},
		{"\x05\x02\x03\x04", "L05020304=6", "L=6"},
		{"\x05\x02\x03\x07", "L05020307=0", "L=0"},
		{"\x05\x81", "L0581=10", "L=10"},

		// In a leaf's part, at its end, aside from it, and behind it.
		{"\x05\x02\xf0", "L0502f00909=7", "L0909=7"},
		{"\x05\x02\xf0\x09", "L0502f00909=7", "L09=7"},
		{"\x05\x02\xf0\x09\x09", "L0502f00909=7", "L=7"},
		{"\x05\x02\xf0\x09\x09\x09", ".", "."},
		{"\x05\x02\xf0\x09\x09\x00", ".", "."},
		{"\x05\x02\xf0\x08", ".", "."},
		{"\x05\x02\xf0\x08\x09", ".", "."},
		{"\x05\x02\xf0\x09\x0a", ".", "."},
		{"\x05\x02\x03\x04\x00", ".", "."},
		{"\x05\x81\xff", ".", "."},

		// In an inner node's part, at its end, aside from it, and behind it.
		{"\x05\x80", "4<0580010203:104<=18446744073709551615:00L=8>:20Lff=9>", "4<010203:104<=18446744073709551615:00L=8>:20Lff=9>"},
		{"\x05\x80\x01", "4<0580010203:104<=18446744073709551615:00L=8>:20Lff=9>", "4<0203:104<=18446744073709551615:00L=8>:20Lff=9>"},
		{"\x05\x80\x01\x02", "4<0580010203:104<=18446744073709551615:00L=8>:20Lff=9>", "4<03:104<=18446744073709551615:00L=8>:20Lff=9>"},
		{"\x05\x80\x01\x02\x03", "4<0580010203:104<=18446744073709551615:00L=8>:20Lff=9>", "4<:104<=18446744073709551615:00L=8>:20Lff=9>"},
		{"\x05\x80\x00", ".", "."},
		{"\x05\x80\x02", ".", "."},
		{"\x05\x80\x01\x03", ".", "."},
		{"\x05\x80\x01\x02\x04", ".", "."},
		{"\x05\x80\x01\x02\x02\x10", ".", "."},
		{"\x05\x80\x01\x02\x03\x10", "4<058001020310=18446744073709551615:00L=8>", "4<=18446744073709551615:00L=8>"},
		{"\x05\x80\x01\x02\x03\x10\x00", "L05800102031000=8", "L=8"},
		{"\x05\x80\x01\x02\x03\x20", "L058001020320ff=9", "Lff=9"},
		{"\x05\x80\x01\x02\x03\x20\xff", "L058001020320ff=9", "L=9"},
		{"\x05\x80\x01\x02\x03\x20\xff\xff", ".", "."},
		{"\x05\x80\x01\x02\x03\x21", ".", "."},
	} {
		for _, owner := range []uint64{3, 4} {
			if s := canon.Shape(check(t, g, calls()[0], c.prefix, owner)); s != c.sub {
				t.Errorf("Sub, %v: %s, not %s", []byte(c.prefix), s, c.sub)
			}
			if s := canon.Shape(check(t, g, calls()[1], c.prefix, owner)); s != c.strip {
				t.Errorf("Strip, %v: %s, not %s", []byte(c.prefix), s, c.strip)
			}
		}
	}
	for _, c := range [][2]string{
		{"", "05"}, {"\x00", "0005"}, {"\xff", "ff05"}, {"\x05", "0505"}, {"\x05\x02", "050205"}, {"ab\x00", "61620005"},
	} {
		for _, owner := range []uint64{3, 4} {
			if s := canon.Shape(check(t, g, calls()[2], c[0], owner)); s != "4<"+c[1]+was[4:] {
				t.Errorf("Under, %v: %s", []byte(c[0]), s)
			}
		}
	}
	g.stays(t)
}

// How many nodes are made where the document leaves no room: one, where the part becomes another one, and none where nothing does.
func TestMade(t *testing.T) {
	l := pairs("ab", "abc", "abdef", "abdeg", "abdehi")
	for _, c := range []struct {
		name, prefix string
		made         int
	}{
		{"Sub", "", 0}, {"Sub", "a", 0}, {"Sub", "ab", 0}, {"Sub", "abc", 1}, {"Sub", "abd", 1}, {"Sub", "abde", 1}, {"Sub", "abdef", 1}, {"Sub", "x", 0}, {"Sub", "abx", 0},
		{"Strip", "", 0}, {"Strip", "a", 1}, {"Strip", "ab", 1}, {"Strip", "abde", 1}, {"Strip", "x", 0}, {"Strip", "abx", 0}, {"Strip", "abdehi", 1},
		{"Under", "", 0}, {"Under", "x", 1}, {"Under", "ab", 1},
	} {
		for _, k := range calls() {
			if k.name != c.name {
				continue
			}
			for _, owner := range []uint64{3, 4} {
				var m meter.Meter
				m.Made(7)
				if _, e := k.ask(built(t, 3, l), []byte(c.prefix), owner, &m); m.Since(7) != c.made || e != api.OK {
					t.Errorf("%s, %s, by %d: %d made, %v, not %d", c.name, c.prefix, owner, m.Since(7), e, c.made)
				}
			}
		}
	}
}

func TestSets(t *testing.T) {
	for _, l := range sets() {
		checkAll(t, l, 400)
	}
}

// What comes out is asked again, and again, down to the last pair.
func TestAgain(t *testing.T) {
	s := steps(41)
	for i, l := range few() {
		g := grow(t, 3, l)
		n, was := g.n, g
		for range 12 {
			c := calls()[s.below(3)]
			prefix := s.word(3, "\x00\x01\xffp")
			if len(was.l) > 0 && c.name != "Under" {
				k := string(was.l[s.below(len(was.l))].Key)
				prefix = k[:s.below(min(len(k), 3)+1)]
			}
			n = check(t, was, c, prefix, uint64(i%3)+2)
			want, _ := c.want(was.l, prefix)
			was = grown{n: n, l: want, was: picture(n), old: map[*node.Node]bool{}}
			for _, o := range nodes(n) {
				was.old[o] = true
			}
		}
		g.stays(t)
	}
}

// Nodes of all kinds, at the top and below, with a value and without: prefixes end ahead of them, in their parts and behind them, by a byte that a kid stands by and by others.
func TestKinds(t *testing.T) {
	for i, order := range orders() {
		for _, count := range edges() {
			for _, top := range []string{"", "part", "\xff"} {
				for _, way := range []string{"", "\x00", "way\xff"} {
					has := (i+count+len(way))%2 == 0
					l := fan(way+top, has, order[:count])
					if way != "" {
						l = append(l, api.Pair{Key: []byte(way[:len(way)-1] + "\xff\xff\xff\xff\xff"), Val: 1})
						if !canonical(l) {
							continue
						}
					}
					g := grow(t, 3, l)
					prefixes := []string{"", way, way + top, way + top + "x", way + top + "\x00\x00"}
					for j := 0; j < 256; j += 1 + count/3 {
						b := string([]byte{order[j]})
						prefixes = append(prefixes, way+top+b, way+top+b+"\x00", way+top+b+"mo")
					}
					for _, prefix := range prefixes {
						for _, c := range calls()[:2] {
							check(t, g, c, prefix, 4)
							check(t, g, c, prefix, 3)
						}
					}
					check(t, g, calls()[2], way, 4)
					g.stays(t)
				}
			}
		}
	}
}

// canonical tells whether pairs rise.
func canonical(l []api.Pair) bool {
	return slices.IsSortedFunc(l, func(a, b api.Pair) int { return bytes.Compare(a.Key, b.Key) })
}

// Of nothing nothing is told, however long the prefix is, and nothing is made.
func TestNothing(t *testing.T) {
	var zero node.Node
	for _, n := range []*node.Node{nil, &zero} {
		for _, prefix := range [][]byte{nil, {}, {0}, {255}, []byte("prefix"), []byte(long(65535)), []byte(long(65536)), []byte(long(200000))} {
			for _, owner := range []uint64{1, 3, math.MaxUint64} {
				for _, c := range calls() {
					var m meter.Meter
					if out, e := c.ask(n, prefix, owner, &m); out != n || e != api.OK || m.Count() != 0 {
						t.Errorf("%s, %s: %v, %v, %d made", c.name, brief(prefix), out, e, m.Count())
					}
					if out, e := c.ask(n, prefix, owner, nil); out != n || e != api.OK {
						t.Errorf("%s, %s: %v, %v", c.name, brief(prefix), out, e)
					}
				}
			}
		}
	}
	if zero.Kind() != 0 {
		t.Error(zero.Kind())
	}
}

// A tree of one pair: all beginnings of its key, and prefixes like it.
func TestOnePair(t *testing.T) {
	for _, k := range append(some(), "part", "a longer key") {
		for _, val := range []uint64{0, 1, math.MaxUint64} {
			l := []api.Pair{{Key: []byte(k), Val: val}}
			for _, owner := range []uint64{3, 4} {
				g := grow(t, 3, l)
				for i := range len(k) + 1 {
					out := check(t, g, calls()[0], k[:i], owner)
					if out != g.n {
						t.Errorf("%v, %v: %s", []byte(k), []byte(k[:i]), canon.Shape(out))
					}
					out = check(t, g, calls()[1], k[:i], owner)
					if string(out.Part()) != k[i:] || out.Kind() != api.Leaf {
						t.Errorf("%v, %v: %s", []byte(k), []byte(k[:i]), canon.Shape(out))
					}
				}
				for _, prefix := range slices.Concat(around(k), some()) {
					for _, c := range calls() {
						check(t, g, c, prefix, owner)
					}
				}
				g.stays(t)
			}
		}
	}
}

// A prefix of no bytes, nil or empty, takes nothing off and puts nothing ahead; the key of no bytes begins with no other one.
func TestNoBytes(t *testing.T) {
	for _, set := range few() {
		for _, l := range [][]api.Pair{set, rising(append(keysOf(set), "")...)} {
			g := grow(t, 3, l)
			for _, owner := range []uint64{3, 4} {
				for _, prefix := range [][]byte{nil, {}, make([]byte, 0, 9), []byte("room")[:0]} {
					for _, c := range calls() {
						var m meter.Meter
						if out, e := c.ask(g.n, prefix, owner, &m); out != g.n || e != api.OK || m.Count() != 0 {
							t.Fatalf("%s of %s: %s, %v, %d made", c.name, brief(canon.Shape(g.n)), brief(canon.Shape(out)), e, m.Count())
						}
					}
				}
				for _, b := range []byte{0, 1, 7, 255} {
					for _, c := range calls() {
						check(t, g, c, string([]byte{b}), owner)
					}
				}
			}
			g.stays(t)
		}
	}
}

// Prefixes that are keys themselves, with keys behind them and without: stripped of it, the key is the one of no bytes.
func TestPrefixIsKey(t *testing.T) {
	for _, l := range sets() {
		if len(l) > 60 {
			continue
		}
		g := grow(t, 3, l)
		for _, p := range l {
			for _, c := range calls()[:2] {
				out := check(t, g, c, string(p.Key), 4)
				first := api.Pair{Key: p.Key, Val: p.Val}
				if c.name == "Strip" {
					first.Key = nil
				}
				if all := canon.List(out); len(all) == 0 || !samePair(all[0], first) {
					t.Fatalf("%s of %s, %s: %s", c.name, brief(canon.Shape(g.n)), brief(p.Key), brief(all))
				}
			}
		}
		g.stays(t)
	}
}

// refused asks for what must be refused, with a meter and without; nothing is made, and nothing is changed.
func refused(t *testing.T, c call, n *node.Node, prefix []byte, owner uint64, want api.Errno) {
	t.Helper()
	var m meter.Meter
	m.Made(7)
	was, k := picture(n), bytes.Clone(prefix)
	for _, m := range []*meter.Meter{&m, nil} {
		if out, e := c.ask(n, prefix, owner, m); out != nil || e != want {
			t.Errorf("%s of %s, %s, by %d: %v, %v, not %v", c.name, brief(canon.Shape(n)), brief(prefix), owner, out, e, want)
		}
	}
	if m.Count() != 7 || !same(n, was) || !bytes.Equal(k, prefix) {
		t.Errorf("%s of %s, %s, by %d: the meter counts %d, or what was handed over is not what it was", c.name, brief(canon.Shape(n)), brief(prefix), owner, m.Count())
	}
}

// Nobody makes no tree, not even where none is to be made, and that is told ahead of all else.
func TestNobody(t *testing.T) {
	var zero node.Node
	trees := []*node.Node{nil, &zero, node.Leaf(nil, 3, []byte("x"), 5), node.Leaf(nil, 0, nil, 6), built(t, 0, many()), built(t, 3, many()), built(t, 3, pairs(long(65535)))}
	for _, l := range few() {
		trees = append(trees, built(t, 3, l))
	}
	for i, n := range trees {
		for _, prefix := range [][]byte{nil, {}, {0}, {5}, {5, 2}, {255}, []byte("x"), []byte(long(65535)), []byte(long(65536)), []byte(long(70000))} {
			if len(prefix) > 100 && i%20 > 7 {
				continue
			}
			for _, c := range calls() {
				refused(t, c, n, prefix, 0, api.ErrArg)
			}
		}
	}
}

// What would have too long a key is refused, just that, and whichever key is the longest one.
func TestTooLong(t *testing.T) {
	under := calls()[2]
	for _, c := range []struct {
		keys    []string
		longest int
	}{
		{[]string{""}, 0},
		{[]string{"\x00"}, 1},
		{[]string{"part"}, 4},
		{[]string{"", "\xff"}, 1},
		{[]string{"part", "particle"}, 8},
		{[]string{"a", "bcd", "ce"}, 3},
		{[]string{"abcd", "b", "c"}, 4},
		{[]string{"a", "b", "cdef"}, 4},
		{[]string{"a", "bcde", "bcdfgh", "c"}, 6},
		{[]string{"abc", "abcdefghi", "abd", "ac"}, 9},
		{[]string{"a", long(1000), "\xff"}, 1000},
		{[]string{"a", long(65535)}, 65535},
		{[]string{long(65534), long(65535)}, 65535},
	} {
		g := grow(t, 3, rising(c.keys...))
		for _, size := range []int{65535 - c.longest, 65534 - c.longest, 65533 - c.longest} {
			if size < 0 {
				continue
			}
			for _, owner := range []uint64{3, 4} {
				out, e := Under(g.n, []byte(long(size)), owner, nil)
				if e != api.OK || Longest(out) != size+c.longest || !canon.Fine(out) {
					t.Errorf("%s, %d bytes ahead: %s, %v", brief(g.l), size, brief(canon.Shape(out)), e)
				}
				check(t, g, under, long(size), owner)
			}
		}
		for _, over := range []int{1, 2, 3, 100, 65535, 1 << 18} {
			for _, owner := range []uint64{1, 3, 4, math.MaxUint64} {
				refused(t, under, g.n, []byte(long(65535-c.longest+over)), owner, api.ErrBig)
			}
			check(t, g, under, long(65535-c.longest+over), 4)
		}
		g.stays(t)
	}
}

// Prefixes longer than all keys, and longer than a key may be, have nothing under them, and are no error.
func TestLongPrefixes(t *testing.T) {
	for _, l := range append(few(), pairs(long(65535)), pairs("", long(65535)), rising(long(65535), long(65534)+"\x80")) {
		g := grow(t, 3, l)
		for _, p := range append(slices.Clone(l[max(0, len(l)-3):]), api.Pair{Key: []byte(long(65535))}) {
			for _, behind := range []string{"\x00", "\xff", "behind", long(65536), strings.Repeat("\x00", 200000)} {
				prefix := string(p.Key) + behind
				if len(part(l, prefix)) > 0 {
					continue
				}
				for _, c := range calls()[:2] {
					if out := check(t, g, c, prefix, 4); out != nil {
						t.Errorf("%s of %s, %s: %s", c.name, brief(l), brief([]byte(prefix)), brief(canon.Shape(out)))
					}
				}
			}
		}
		g.stays(t)
	}
}

// Keys as long as they may be, and prefixes that end everywhere in them.
func TestLongKeys(t *testing.T) {
	most := long(65535)
	for _, l := range [][]api.Pair{
		pairs(most),
		pairs("", most),
		pairs(most[:65534], most),
		pairs(strings.Repeat("\xff", 65534), strings.Repeat("\xff", 65535)),
		pairs(strings.Repeat("\x00", 65534), strings.Repeat("\x00", 65535)),
		pairs("", "\x07", most[:65534]+"\x01", most[:65534]+"\x02", most),
		rising(most[:40000], most[:40000]+"\x00", most[:40000]+"\xff"+most[:20000], most),
		rising(most[:40000]+"\x00", most[:40000]+"\xfe", most[:40000]+"\xff"+most[:25534], most),
	} {
		g := grow(t, 3, l)
		for _, size := range []int{0, 1, 2, 39999, 40000, 40001, 65533, 65534, 65535, 65536} {
			for _, prefix := range []string{long(size), long(size) + "\x00", long(size) + "\xff", strings.Repeat("\x00", size), strings.Repeat("\xff", size)} {
				for _, c := range calls() {
					check(t, g, c, prefix, 4)
				}
			}
		}
		g.stays(t)
	}
}

// Owners are told by the number alone, and nobody's nodes are told like others.
func TestOwners(t *testing.T) {
	all := []uint64{1, 2, 3, 1 << 32, math.MaxUint64 - 1, math.MaxUint64}
	for i, l := range few() {
		if len(l) > 60 {
			continue
		}
		for _, theirs := range append([]uint64{0}, all...) {
			g := grow(t, theirs, l)
			prefixes := looked(g.n)
			for j := i % 7; j < len(prefixes); j += len(prefixes)/4 + 1 {
				for _, mine := range all {
					for _, c := range calls() {
						check(t, g, c, prefixes[j], mine)
					}
				}
			}
			g.stays(t)
		}
	}
}

// A meter that is nil changes nothing of what comes out.
func TestNoMeter(t *testing.T) {
	for _, l := range few() {
		g := grow(t, 3, l)
		prefixes := looked(g.n)
		for j := 0; j < len(prefixes); j += len(prefixes)/15 + 1 {
			for _, c := range calls() {
				want, _ := c.want(l, prefixes[j])
				for _, owner := range []uint64{3, 4} {
					out, e := c.ask(g.n, []byte(prefixes[j]), owner, nil)
					if s := canon.Shape(out); s != shape(t, want) || e != api.OK {
						t.Fatalf("%s of %s, %s: %s, %v", c.name, brief(canon.Shape(g.n)), brief([]byte(prefixes[j])), brief(s), e)
					}
				}
			}
		}
		g.stays(t)
	}
}

// A tree as deep as trees can be, whose nodes all have a value: its keys are all beginnings of the longest one.
func deepest(owner uint64, size int) *node.Node {
	k := long(size)
	n := node.Leaf(nil, owner, nil, uint64(size))
	for at := len(k) - 1; at >= 0; at-- {
		top := node.Inner(nil, owner, nil)
		top.SetVal(owner, uint64(at))
		top.SetKid(owner, k[at], n)
		n = top
	}
	return n
}

func TestDeepest(t *testing.T) {
	n := deepest(3, 65535)
	was := picture(n)
	if size := Longest(n); size != 65535 {
		t.Error(size)
	}
	for _, size := range []int{1, 2, 1000, 40000, 65533, 65534, 65535} {
		for _, owner := range []uint64{3, 4} {
			var m meter.Meter
			out, e := Sub(n, []byte(long(size)), owner, &m)
			if e != api.OK || string(out.Part()) != long(size) || canon.Count(out) != 65536-size || Longest(out) != 65535 || m.Count() != 1 || !canon.Fine(out) {
				t.Errorf("Sub, %d bytes: %v, %d bytes of part, %d pairs, %d made", size, e, len(out.Part()), canon.Count(out), m.Count())
			}
			out, e = Strip(n, []byte(long(size)), owner, &m)
			if e != api.OK || len(out.Part()) != 0 || canon.Count(out) != 65536-size || Longest(out) != 65535-size || m.Count() > 2 || !canon.Fine(out) {
				t.Errorf("Strip, %d bytes: %v, %d bytes of part, %d pairs, %d made", size, e, len(out.Part()), canon.Count(out), m.Count())
			}
			back, e := Under(out, []byte(long(size)), owner, &m)
			if e != api.OK || string(back.Part()) != long(size) || canon.Count(back) != 65536-size || Longest(back) != 65535 || !canon.Fine(back) {
				t.Errorf("Under, %d bytes: %v, %d bytes of part, %d pairs", size, e, len(back.Part()), canon.Count(back))
			}
			for _, prefix := range []string{long(size) + "\x80", long(size-1) + "\x80", long(size-1) + "\x06"} {
				for _, c := range calls()[:2] {
					if out, e := c.ask(n, []byte(prefix), owner, &m); out != nil || e != api.OK {
						t.Errorf("%s, %d bytes: %v, %v", c.name, len(prefix), out, e)
					}
				}
			}
		}
	}
	for _, c := range calls()[:2] {
		if out, e := c.ask(n, []byte(long(65536)), 4, nil); out != nil || e != api.OK {
			t.Error(c.name, out, e)
		}
	}
	if out, e := Under(n, []byte{7}, 4, nil); out != nil || e != api.ErrBig {
		t.Error(out, e)
	}
	if out, e := Under(n, nil, 4, nil); out != n || e != api.OK {
		t.Error(out, e)
	}
	if !same(n, was) {
		t.Error("the tree is not what it was")
	}
}

// Trees that were put together and taken apart, by several owners.
func TestPutAndTakenOut(t *testing.T) {
	s := steps(29)
	for i, alphabet := range []string{"\x00\x01\xff\x02\x07", "\x00\xff", string(orders()[2])} {
		var n *node.Node
		table := map[string]uint64{}
		for j := range 900 {
			k, owner := s.word(5-i, alphabet), uint64(1+s.below(3))
			var e api.Errno
			if s.below(5) < 3 {
				n, e = put.Put(n, []byte(k), uint64(j), owner, nil)
				table[k] = uint64(j)
			} else {
				n, _, e = del.Del(n, []byte(k), owner, nil)
				delete(table, k)
			}
			if e != api.OK {
				t.Fatal(e)
			}
			g := grown{n: n, was: picture(n), old: map[*node.Node]bool{}}
			for _, o := range nodes(n) {
				g.old[o] = true
			}
			most := 0
			for _, k := range slices.Sorted(maps.Keys(table)) {
				g.l = append(g.l, api.Pair{Key: []byte(k), Val: table[k]})
				most = max(most, len(k))
			}
			if size := Longest(n); size != most {
				t.Fatalf("%s: %d, not %d", brief(canon.Shape(n)), size, most)
			}
			for _, c := range calls() {
				check(t, g, c, s.word(3, alphabet), uint64(1+s.below(4)))
			}
			g.stays(t)
		}
	}
}

// P18.2

// What is made may be written to by its owner: the tree that it was made of stays, and so does all else that was made of it.
func TestVersionsStay(t *testing.T) {
	for i, l := range few() {
		if len(l) > 60 {
			continue
		}
		g := grow(t, 1, l)
		prefixes := looked(g.n)
		owner := uint64(2)
		var versions []*node.Node
		var pictures [][]seen
		for j := i % 5; j < len(prefixes); j += len(prefixes)/12 + 1 {
			for _, c := range calls() {
				out := check(t, g, c, prefixes[j], owner)
				want, _ := c.want(l, prefixes[j])
				for _, k := range []string{prefixes[j], prefixes[j] + "behind", "", "\x01\x02", prefixes[j] + "\x00\x00\x00"} {
					out, want = putIn(t, out, k, 77, owner), with(want, k, 77)
				}
				for _, k := range keysOf(l)[:len(l)/2] {
					out, _, _ = del.Del(out, []byte(k), owner, nil)
					want = without(want, k)
				}
				if got, want := canon.Shape(out), shape(t, want); got != want {
					t.Fatalf("%s of %s, %s: %s, not %s", c.name, brief(canon.Shape(g.n)), brief([]byte(prefixes[j])), brief(got), brief(want))
				}
				versions, pictures = append(versions, out), append(pictures, picture(out))
				owner++
			}
		}
		g.stays(t)
		for j, n := range versions {
			if !same(n, pictures[j]) {
				t.Fatalf("%s: version %d is not what it was", brief(l), j)
			}
		}
	}
}

// By the owner of the tree itself, no node of the tree is written to either.
func TestOwnNodesStay(t *testing.T) {
	for _, l := range sets() {
		if len(l) > 100 {
			continue
		}
		g := grow(t, 3, l)
		prefixes := looked(g.n)
		for j := 0; j < len(prefixes); j += len(prefixes)/10 + 1 {
			for _, c := range calls() {
				check(t, g, c, prefixes[j], 3)
				g.stays(t)
			}
		}
	}
}

// P18.3

func TestLongest(t *testing.T) {
	for _, c := range []struct {
		keys []string
		size int
	}{
		{nil, 0},
		{[]string{""}, 0},
		{[]string{"\x00"}, 1},
		{[]string{"\xff\xff"}, 2},
		{[]string{"", "\x00"}, 1},
		{[]string{"", "\xff\x00\x00"}, 3},
		{[]string{"a", "ab", "abc"}, 3},
		{[]string{"abc", "b"}, 3},
		{[]string{"a", "bcd"}, 3},
		{[]string{"a", "bcde", "c"}, 4},
		{[]string{"abc", "abd", "abefghi", "abex", "ac"}, 7},
		{[]string{"abc", "abd", "abefghi", "abex", "acdefghij"}, 9},
		{[]string{"part", "particle", "parting"}, 8},
		{[]string{"part", "partial", "particles"}, 9},
		{[]string{long(65535)}, 65535},
		{[]string{"", long(65535), "\xff"}, 65535},
		{[]string{long(65534), long(65534) + "\x80"}, 65535},
		{[]string{long(65533) + "\x00", long(65533) + "\x01"}, 65534},
	} {
		for _, owner := range []uint64{0, 1, 3, math.MaxUint64} {
			n := built(t, owner, rising(c.keys...))
			was := picture(n)
			for range 2 {
				if size := Longest(n); size != c.size {
					t.Errorf("%s: %d, not %d", brief(canon.Shape(n)), size, c.size)
				}
			}
			if !same(n, was) {
				t.Errorf("%s is not what it was", brief(canon.Shape(n)))
			}
		}
	}
	if size := Longest(new(node.Node)); size != 0 {
		t.Error("of a node that nothing made:", size)
	}
}

func TestLongestOfSets(t *testing.T) {
	for i, l := range sets() {
		most := 0
		for _, p := range l {
			most = max(most, len(p.Key))
		}
		n := built(t, uint64(i%3), l)
		if size := Longest(n); size != most {
			t.Fatalf("%s: %d, not %d", brief(canon.Shape(n)), size, most)
		}
	}
}

// The longest key stands behind each byte once, in nodes of all kinds.
func TestLongestBehindEach(t *testing.T) {
	for _, order := range orders() {
		for _, count := range edges() {
			for at := 0; at < count; at += count/7 + 1 {
				var keys []string
				for i, b := range order[:count] {
					k := "part" + string([]byte{b})
					if i == at {
						k += "longest"
					} else if i%3 == 0 {
						k += "short"
					}
					keys = append(keys, k)
				}
				if size := Longest(built(t, 3, rising(keys...))); size != 12 {
					t.Errorf("%d of %d: %d", at, count, size)
				}
			}
		}
	}
}

// A canonical tree may have one node at many places, as one that is put together of trees that share nodes has: it has 2 to the 60 keys, and few nodes.
func TestLongestOfShared(t *testing.T) {
	n := node.Leaf(nil, 3, []byte("end"), 5)
	for range 60 {
		top := node.Inner(nil, 3, []byte("x"))
		top.SetKid(3, 0, n)
		top.SetKid(3, 255, n)
		n = top
	}
	if size := Longest(n); size != 123 {
		t.Error(size)
	}
	var m meter.Meter
	out, e := Under(n, []byte(long(65535-123)), 4, &m)
	if Longest(out) != 65535 || e != api.OK || m.Count() != 1 {
		t.Error(Longest(out), e, m.Count())
	}
	if out, e := Under(n, []byte(long(65536-123)), 4, &m); out != nil || e != api.ErrBig || m.Count() != 1 {
		t.Error(out, e, m.Count())
	}
	prefix := strings.Repeat("x\x00x\xff", 20)
	out, e = Sub(n, []byte(prefix), 4, &m)
	if Longest(out) != 123 || string(out.Part()) != prefix+"x" || e != api.OK || m.Count() != 2 {
		t.Error(Longest(out), e, m.Count())
	}
	if out, e = Strip(n, []byte(prefix), 4, &m); Longest(out) != 123-80 || string(out.Part()) != "x" || e != api.OK {
		t.Error(Longest(out), e)
	}
}

// One node stands at two places, once further down: what is behind it there counts, wherever it is come to first.
func TestLongestOfTwoPlaces(t *testing.T) {
	for _, deep := range []byte{0, 1, 2} {
		n := built(t, 3, pairs("abc", "abd", "abef"))
		top := node.Inner(nil, 3, []byte("top"))
		for b := range byte(3) {
			kid := n
			if b == deep {
				kid = node.Inner(nil, 3, []byte("further"))
				kid.SetKid(3, 7, n)
				kid.SetVal(3, 5)
			}
			top.SetKid(3, b, kid)
		}
		if size := Longest(top); size != 3+1+7+1+4 {
			t.Error(deep, size)
		}
	}
}

// P18.4

// ask asks for a tree that there must be.
func ask(t *testing.T, c call, n *node.Node, prefix string, owner uint64) *node.Node {
	t.Helper()
	out, e := c.ask(n, []byte(prefix), owner, nil)
	if e != api.OK {
		t.Fatalf("%s of %s, %s: %v", c.name, brief(canon.Shape(n)), brief([]byte(prefix)), e)
	}
	return out
}

// checkBack puts a tree under a prefix and strips it again, and strips it of the prefix and puts it under it again, by two owners.
func checkBack(t *testing.T, n *node.Node, prefix string, first, second uint64) {
	t.Helper()
	sub, strip, under := calls()[0], calls()[1], calls()[2]
	is, was := canon.Shape(n), picture(n)
	fail := func(what string, out *node.Node) {
		t.Helper()
		t.Fatalf("%s, %s: %s: %s", brief(is), brief([]byte(prefix)), what, brief(canon.Shape(out)))
	}
	below := ask(t, under, n, prefix, first)
	if out := ask(t, sub, below, prefix, second); out != below {
		fail("not all is under the prefix", out)
	}
	if out := ask(t, strip, below, prefix, second); canon.Shape(out) != is {
		fail("put under it and stripped", out)
	}
	all := ask(t, sub, n, prefix, first)
	stripped := ask(t, strip, n, prefix, first)
	if out := ask(t, under, stripped, prefix, second); canon.Shape(out) != canon.Shape(all) {
		fail("stripped and put under it", out)
	}
	if out := ask(t, strip, all, prefix, second); canon.Shape(out) != canon.Shape(stripped) {
		fail("the part, stripped", out)
	}
	if out := ask(t, sub, all, prefix, second); out != all {
		fail("the part of the part", out)
	}
	if !same(n, was) {
		fail("the tree is not what it was", n)
	}
}

func TestThereAndBack(t *testing.T) {
	for i, l := range sets() {
		if len(l) > 150 && i%4 != 0 {
			continue
		}
		n := built(t, 3, l)
		prefixes := looked(n)
		for j := 0; j < len(prefixes); j += len(prefixes)/(4000/(len(l)+20)+3) + 1 {
			checkBack(t, n, prefixes[j], uint64(j%2)+3, uint64(i%2)+3)
		}
		checkBack(t, n, "", 3, 4)
	}
	for _, prefix := range []string{long(65000), long(65000)[1:], strings.Repeat("\xff", 65000)} {
		checkBack(t, built(t, 3, many()), prefix, 4, 5)
		checkBack(t, built(t, 3, rising(prefix, prefix+"\x00", prefix+"\xff", prefix[:64000])), prefix[:500], 4, 5)
		checkBack(t, built(t, 3, rising(prefix, prefix+"\x00", prefix+"\xff")), prefix[:500], 4, 5)
	}
}

// Two prefixes one behind the other do what they do together.
func TestTwoPrefixes(t *testing.T) {
	sub, strip, under := calls()[0], calls()[1], calls()[2]
	for i, l := range few() {
		n := built(t, 3, l)
		prefixes := looked(n)
		for j := i % 3; j < len(prefixes); j += len(prefixes)/10 + 1 {
			k := prefixes[j]
			for _, at := range []int{0, 1, len(k) / 2, len(k) - 1, len(k)} {
				if at < 0 || at > len(k) {
					continue
				}
				for _, pair := range [][2]*node.Node{
					{ask(t, sub, ask(t, sub, n, k[:at], 4), k, 5), ask(t, sub, n, k, 4)},
					{ask(t, sub, ask(t, sub, n, k, 4), k[:at], 5), ask(t, sub, n, k, 4)},
					{ask(t, strip, ask(t, strip, n, k[:at], 4), k[at:], 5), ask(t, strip, n, k, 4)},
					{ask(t, under, ask(t, under, n, k[at:], 4), k[:at], 5), ask(t, under, n, k, 4)},
				} {
					if a, b := canon.Shape(pair[0]), canon.Shape(pair[1]); a != b {
						t.Fatalf("%s, %s at %d: %s, not %s", brief(canon.Shape(n)), brief([]byte(k)), at, brief(a), brief(b))
					}
				}
			}
		}
	}
}

// R3

// What is written to a tree by its owner is told from then on: nothing is kept.
func TestToldAnew(t *testing.T) {
	n := built(t, 3, pairs("\x01", "\x02", "\x03", "\x04"))
	again := func(longest int) {
		t.Helper()
		if size := Longest(n); size != longest {
			t.Fatal(canon.Shape(n), size)
		}
		g := grown{n: n, l: canon.List(n), was: picture(n), old: map[*node.Node]bool{}}
		for _, o := range nodes(n) {
			g.old[o] = true
		}
		for _, prefix := range looked(n) {
			for _, c := range calls() {
				check(t, g, c, prefix, 3)
				check(t, g, c, prefix, 4)
			}
		}
		g.stays(t)
	}
	again(1)
	n.SetKid(3, 5, node.Leaf(nil, 3, []byte{6}, 8))
	again(2)
	n.SetVal(3, 0)
	again(2)
	n.SetPart(3, []byte{9, 9})
	again(4)
	n.DropVal(3)
	n.DropKid(3, 1)
	again(4)
	n.DropKid(3, 5)
	n.DropKid(3, 3)
	again(3)
	n.Kid(2).SetPart(3, []byte("long"))
	again(7)
}

// The same is told each time.
func TestSameEachTime(t *testing.T) {
	for _, l := range few() {
		g := grow(t, 3, l)
		prefixes := looked(g.n)
		for j := 0; j < len(prefixes); j += len(prefixes)/20 + 1 {
			for _, c := range calls() {
				first := check(t, g, c, prefixes[j], 4)
				was := picture(first)
				second := check(t, g, c, prefixes[j], 4)
				if canon.Shape(first) != canon.Shape(second) || !same(first, was) {
					t.Fatalf("%s of %s, %s: %s, and then %s", c.name, brief(l), brief([]byte(prefixes[j])), brief(canon.Shape(first)), brief(canon.Shape(second)))
				}
			}
		}
		g.stays(t)
	}
}

// R4

// roomy is the same key with room behind it, where 170 stands.
func roomy(k string) []byte {
	room := bytes.Repeat([]byte{170}, len(k)+300)
	copy(room, k)
	return room[:len(k)]
}

// stays tells whether a key that roomy gave is as it was, with its room.
func stays(handed []byte, k string) bool {
	return bytes.Equal(handed[:cap(handed)][:len(k)+300], slices.Concat([]byte(k), bytes.Repeat([]byte{170}, 300)))
}

// spoil writes to a key, and to all the room behind it.
func spoil(k []byte) {
	k = k[:cap(k)]
	for i := range k {
		k[i] += 3
	}
}

func TestHandedOverStays(t *testing.T) {
	for _, l := range few() {
		g := grow(t, 3, l)
		prefixes := slices.Concat(looked(g.n), keysOf(l))
		for j := 0; j < len(prefixes); j += len(prefixes)/60 + 1 {
			prefix := prefixes[j]
			for _, c := range calls() {
				handed := roomy(prefix)
				out, e := c.ask(g.n, handed, 4, nil)
				if e != api.OK || !stays(handed, prefix) {
					t.Fatalf("%s of %s, %s: %v, or it writes to the prefix", c.name, brief(l), brief([]byte(prefix)), e)
				}
				// Whoever handed the prefix over writes to it.
				spoil(handed)
				want, _ := c.want(l, prefix)
				if got, want := canon.Shape(out), shape(t, want); got != want {
					t.Fatalf("%s of %s, %s: it keeps the prefix: %s, not %s", c.name, brief(l), brief([]byte(prefix)), brief(got), brief(want))
				}
			}
		}
		g.stays(t)
	}
}

// What is put behind a part is put elsewhere: neither in the prefix's room nor in the tree's part.
func TestPutBehind(t *testing.T) {
	for _, l := range few() {
		if len(l) > 60 {
			continue
		}
		g := grow(t, 3, l)
		prefixes := slices.Concat(looked(g.n), keysOf(l))
		for j := 0; j < len(prefixes); j += len(prefixes)/30 + 1 {
			prefix := prefixes[j]
			for _, c := range calls() {
				handed := roomy(prefix)
				out, _ := c.ask(g.n, handed, 4, nil)
				want, _ := c.want(l, prefix)
				for _, behind := range []string{"behind", "\x00", "\xff\xff", "bed"} {
					out, want = putIn(t, out, prefix+behind, 9, 4), with(want, prefix+behind, 9)
				}
				room := append(out.Part(), "in no room"...)
				if got, want := canon.Shape(out), shape(t, want); got != want || !stays(handed, prefix) {
					t.Fatalf("%s of %s, %s, and %s: %s, not %s, or the prefix is not what it was", c.name, brief(l), brief([]byte(prefix)), room, brief(got), brief(want))
				}
			}
		}
		g.stays(t)
	}
}

// Prefixes that are pieces of one memory: none is changed by what is asked of another one.
func TestPiecesOfOne(t *testing.T) {
	const text = "\x05\x80\x01\x02\x03\x10\x00 and more of it"
	g := grow(t, 3, many())
	memory := []byte(text)
	for size := range len(text) {
		for _, c := range calls() {
			var m meter.Meter
			out, e := c.ask(g.n, memory[:size], 4, &m)
			want, _ := c.want(g.l, text[:size])
			if s := canon.Shape(out); s != shape(t, want) || e != api.OK || string(memory) != text {
				t.Fatalf("%s, %d bytes: %s, %v, %v", c.name, size, s, e, memory)
			}
		}
	}
	g.stays(t)
}

// What is refused is not written to either.
func TestRefusedStays(t *testing.T) {
	n := built(t, 3, many())
	for _, c := range calls() {
		for _, owner := range []uint64{0, 4} {
			for _, prefix := range []string{"\x05\x02", long(65530), long(70000)} {
				handed := roomy(prefix)
				c.ask(n, handed, owner, nil)
				if !stays(handed, prefix) {
					t.Errorf("%s, %d bytes, by %d: it writes to the prefix", c.name, len(prefix), owner)
				}
			}
		}
	}
}

// R7

// Of trees that are not canonical nothing is asked but that the calls end.
func TestNotCanonical(t *testing.T) {
	const owner = 3
	ring := func(part string, b byte, has bool) *node.Node {
		n := node.Inner(nil, owner, []byte(part))
		n.SetKid(owner, b, n)
		if has {
			n.SetVal(owner, 5)
		}
		return n
	}
	two := node.Inner(nil, owner, []byte("\x07"))
	other := node.Inner(nil, owner, nil)
	two.SetKid(owner, 0, other)
	other.SetKid(owner, 255, two)
	other.SetKid(owner, 7, other)
	other.SetVal(owner, 6)

	short := node.Inner(nil, owner, []byte("\x01"))
	short.SetKid(owner, 2, node.Inner(nil, owner, nil))
	twice := node.Inner(nil, owner, nil)
	for b := range 256 {
		twice.SetKid(owner, byte(b), twice)
	}
	bare := node.Inner(nil, owner, []byte("\x01\x02"))
	bare.SetVal(owner, 5)
	tooLong := node.Leaf(nil, owner, []byte(long(200000)), 5)
	below := node.Inner(nil, owner, []byte(long(40000)))
	below.SetKid(owner, 0, node.Leaf(nil, owner, []byte(long(40000)), 5))
	below.SetKid(owner, 255, below)

	prefixes := append(some(), "\x00\x01\x02", "\x07\x00\x07", "\x07\x00", long(65535), long(200000), strings.Repeat("\x00", 1<<20), strings.Repeat("\x07", 300),
		strings.Repeat("\x07\x00", 70000), strings.Repeat("\xff", 65536))
	for i, n := range []*node.Node{ring("", 0, false), ring("", 0, true), ring("", 255, false), ring("", 255, true), ring("", 7, true), ring("\x00", 0, true),
		ring("\x07\x00", 255, true), ring(long(70000), 1, false), two, other, short, twice, bare, tooLong, below, node.Inner(nil, owner, nil)} {
		part, kids := string(n.Part()), n.Len()
		for _, prefix := range prefixes {
			for _, c := range calls() {
				for _, by := range []uint64{1, owner, math.MaxUint64} {
					var m meter.Meter
					handed := roomy(prefix)
					_, e := c.ask(n, handed, by, &m)
					if e != api.OK && (e != api.ErrBig || c.name != "Under") || m.Count() > 1 || !stays(handed, prefix) {
						t.Errorf("%d, %s: %s %v, %d made", i, brief([]byte(prefix)), c.name, e, m.Count())
					}
				}
			}
		}
		Longest(n)
		if string(n.Part()) != part || n.Len() != kids || n.Owner() != owner {
			t.Errorf("%d is not what it was", i)
		}
	}
}

// Inner nodes that are left without a value and kids have no key: so they are not the longest one's.
func TestLongestNotCanonical(t *testing.T) {
	empty := node.Inner(nil, 3, []byte("no key"))
	if size := Longest(empty); size != 0 {
		t.Error(size)
	}
	n := built(t, 3, pairs("a", "b"))
	n.SetKid(3, 'c', empty)
	if size := Longest(n); size != 1 {
		t.Error(size)
	}
	one := node.Inner(nil, 3, []byte("one"))
	one.SetKid(3, 0, node.Leaf(nil, 3, []byte("kid"), 5))
	if size := Longest(one); size != 7 {
		t.Error(size)
	}
	bare := node.Inner(nil, 3, []byte("bare"))
	bare.SetVal(3, 5)
	if size := Longest(bare); size != 4 {
		t.Error(size)
	}
	n.SetKid(3, 'd', bare)
	if size := Longest(n); size != 5 {
		t.Error(size)
	}
	top := node.Inner(nil, 3, []byte("nor here"))
	top.SetKid(3, 0, empty)
	if size := Longest(top); size != 0 {
		t.Error(size)
	}
}
