package del

import (
	"bytes"
	"fmt"
	"maps"
	"math"
	"slices"
	"strings"
	"testing"

	"spunyarn/api"
	"spunyarn/canon"
	"spunyarn/find"
	"spunyarn/meter"
	"spunyarn/node"
	"spunyarn/put"
)

// nodes are all nodes of a tree.
func nodes(n *node.Node) []*node.Node {
	if n.Kind() == 0 {
		return nil
	}
	all := []*node.Node{n}
	for b, kid := n.Next(0); kid != nil; b, kid = n.Next(int(b) + 1) {
		all = append(all, nodes(kid)...)
	}
	return all
}

// seen is what can be told of a node, and where it stands in a tree.
type seen struct {
	node       *node.Node
	deep, by   int // how many nodes stand above it, and by which byte it is a kid
	kind       int
	owner, val uint64
	has        bool
	part       string
}

// picture is all that can be told of a tree.
func picture(n *node.Node) []seen {
	var all []seen
	var down func(n *node.Node, deep, by int)
	down = func(n *node.Node, deep, by int) {
		val, has := n.Val()
		all = append(all, seen{n, deep, by, n.Kind(), n.Owner(), val, has, string(n.Part())})
		for b, kid := n.Next(0); kid != nil; b, kid = n.Next(int(b) + 1) {
			down(kid, deep+1, int(b))
		}
	}
	down(n, 0, 0)
	return all
}

// same tells whether a tree still is as it was.
func same(n *node.Node, was []seen) bool { return slices.Equal(picture(n), was) }

// brief is a text, or its beginning and end, if it is long.
func brief(a any) string {
	s := fmt.Sprint(a)
	if len(s) > 300 {
		return s[:200] + " ... " + s[len(s)-100:]
	}
	return s
}

// built is the canonical tree of pairs.
func built(t *testing.T, owner uint64, l []api.Pair) *node.Node {
	t.Helper()
	n, e := canon.Build(nil, owner, l)
	if e != api.OK {
		t.Fatal(brief(l), e)
	}
	return n
}

// place is where a key stands among pairs that rise, or would, and whether it does.
func place(l []api.Pair, k string) (int, bool) {
	return slices.BinarySearchFunc(l, k, func(p api.Pair, k string) int { return strings.Compare(string(p.Key), k) })
}

// with are pairs that rise, with another pair in place of what they have by its key.
func with(l []api.Pair, k string, val uint64) []api.Pair {
	at, has := place(l, k)
	end := at
	if has {
		end++
	}
	return slices.Concat(l[:at], []api.Pair{{Key: []byte(k), Val: val}}, l[end:])
}

// without are pairs that rise without the one of a key.
func without(l []api.Pair, k string) []api.Pair {
	at, has := place(l, k)
	if !has {
		return l
	}
	return slices.Concat(l[:at], l[at+1:])
}

// shape is the shape of the canonical tree of pairs, by a layer that does not know of this one.
func shape(t *testing.T, l []api.Pair) string {
	t.Helper()
	return canon.Shape(built(t, 0, l))
}

// ask takes a key out, and answers the tree, whether it had the key, and how many nodes are made, as a meter that counted before tells.
func ask(t *testing.T, n *node.Node, k string, owner uint64) (*node.Node, bool, int) {
	t.Helper()
	var m meter.Meter
	m.Made(7)
	out, had, e := Del(n, []byte(k), owner, &m)
	if e != api.OK {
		t.Fatalf("%s, %s: %v", brief(canon.Shape(n)), brief([]byte(k)), e)
	}
	return out, had, m.Since(7)
}

// putIn puts a pair, by the layer below.
func putIn(t *testing.T, n *node.Node, k string, val, owner uint64) *node.Node {
	t.Helper()
	out, e := put.Put(n, []byte(k), val, owner, nil)
	if e != api.OK {
		t.Fatalf("%s, %s: %v", brief(canon.Shape(n)), brief([]byte(k)), e)
	}
	return out
}

// check takes a key out of the canonical tree of pairs, whose nodes are all of one owner, by another one and by that one.
func check(t *testing.T, l []api.Pair, k string) {
	t.Helper()
	const theirs, mine = 3, 4
	_, has := place(l, k)
	want := shape(t, without(l, k))
	tell := brief(shape(t, l)) + ", " + brief([]byte(k))

	n := built(t, theirs, l)
	was := picture(n)
	steps := find.Steps(n, []byte(k))
	for range 2 { // the tree stays, so that it can be taken out of again
		out, had, made := ask(t, n, k, mine)
		if got := canon.Shape(out); got != want || had != has {
			t.Fatalf("%s, by another: %s, %v, not %s, %v", tell, brief(got), had, brief(want), has)
		}
		if !has && (out != n || made != 0) {
			t.Fatalf("%s, by another: is not there, but %d nodes are made, or it is not the tree itself", tell, made)
		}
		if made > steps+2 {
			t.Fatalf("%s, by another: %d nodes are made, of %d steps", tell, made, steps)
		}
		checkMade(t, []*node.Node{n}, out, mine, made)
		if !same(n, was) {
			t.Fatalf("%s, by another: the tree is not what it was", tell)
		}
	}

	out, had, made := ask(t, n, k, theirs)
	if got := canon.Shape(out); got != want || had != has {
		t.Fatalf("%s, by its owner: %s, %v, not %s, %v", tell, brief(got), had, brief(want), has)
	}
	switch {
	case made > 1:
		t.Fatalf("%s, by its owner: %d nodes are made", tell, made)
	case !has && (made != 0 || out != n || !same(n, was)):
		t.Fatalf("%s, by its owner: is not there, but %d nodes are made, or it is not the tree that it was", tell, made)
	}
	for _, o := range nodes(out) {
		if o.Owner() != theirs {
			t.Fatalf("%s, by its owner: a node is owner %d's", tell, o.Owner())
		}
	}
}

// checkMade tells whether just the nodes that a tree has and those that it was made of have not were counted, and are its owner's.
func checkMade(t *testing.T, from []*node.Node, out *node.Node, owner uint64, made int) {
	t.Helper()
	old := map[*node.Node]bool{}
	for _, n := range from {
		for _, o := range nodes(n) {
			old[o] = true
		}
	}
	for _, o := range nodes(out) {
		if old[o] {
			continue
		}
		made--
		if o.Owner() != owner {
			t.Fatalf("%s: a node is owner %d's, not %d's", brief(canon.Shape(out)), o.Owner(), owner)
		}
	}
	if made != 0 {
		t.Fatalf("%s: the meter counts %d nodes more than are new", brief(canon.Shape(out)), made)
	}
}

// checkAll takes out keys that are there, and keys beside them. What is more than can be done is thinned out.
func checkAll(t *testing.T, l []api.Pair, most int) {
	t.Helper()
	most = max(most/(len(l)+1), 12)
	for i := 0; i < len(l); i += len(l)/(2*most) + 1 {
		check(t, l, string(l[i].Key))
	}
	looked := looked(t, l)
	for i := most % 3; i < len(looked); i += len(looked)/most + 1 {
		check(t, l, looked[i])
	}
}

// pairs are pairs of keys that rise, with values of all sizes.
func pairs(keys ...string) []api.Pair {
	vals := []uint64{5, 6, 0, math.MaxUint64, 1, 10, 255, 1 << 32, 1 << 63, 9999999999}
	var l []api.Pair
	for i, k := range keys {
		l = append(l, api.Pair{Key: []byte(k), Val: vals[i%len(vals)] - uint64(i/len(vals))})
	}
	return l
}

// rising are the pairs of keys in any order, each once.
func rising(keys ...string) []api.Pair {
	keys = slices.Clone(keys)
	slices.Sort(keys)
	return pairs(slices.Compact(keys)...)
}

// edges are how many next bytes each kind has at least and at most, and some between.
func edges() []int {
	return []int{1, 2, 3, 4, 5, 6, 15, 16, 17, 18, 32, 47, 48, 49, 50, 100, 255, 256}
}

// orders are all bytes in several orders: from 0 on, from 255 down, and mixed.
func orders() [][]byte {
	var up, down, mixed []byte
	for i := range 256 {
		up = append(up, byte(i))
		down = append(down, byte(255-i))
		mixed = append(mixed, byte(i*77+19))
	}
	return [][]byte{up, down, mixed}
}

// fan is a key for each of the bytes, behind a part, with others behind some of them; and the part itself, if has.
func fan(part string, has bool, order []byte) []api.Pair {
	var keys []string
	if has {
		keys = append(keys, part)
	}
	for i, b := range order {
		k := part + string([]byte{b})
		switch i % 4 {
		case 0:
			keys = append(keys, k)
		case 1:
			keys = append(keys, k, k+"\x00")
		case 2:
			keys = append(keys, k+"more")
		case 3:
			keys = append(keys, k+"\x01", k+"\xff")
		}
	}
	return rising(keys...)
}

// some are short keys that begin alike here and there.
func some() []string {
	return []string{"", "\x00", "\x00\x00", "\x00\x00\x00", "\x00\x01", "\x00\xff", "\x01", "\x01\x02", "\x01\x02\x03",
		"\x01\x02\x03\x04", "\x01\x02\xff", "\x01\x03\x03", "\xfe", "\xff", "\xff\x00", "\xff\xff", "\xff\xff\xff"}
}

func long(n int) string { return strings.Repeat("\x07\x00\xff\x01", n/4+1)[:n] }

// steps are numbers of a fixed row.
type steps uint32

func (s *steps) below(n int) int {
	*s = *s*1664525 + 1013904223
	return int(*s>>16) % n
}

// word is a key of a fixed row, of at most most bytes out of an alphabet.
func (s *steps) word(most int, alphabet string) string {
	k := ""
	for range s.below(most + 1) {
		k += alphabet[s.below(len(alphabet)):][:1]
	}
	return k
}

// shuffled are pairs in an order of a fixed row.
func shuffled(s *steps, l []api.Pair) []api.Pair {
	l = slices.Clone(l)
	for i := range l {
		j := i + s.below(len(l)-i)
		l[i], l[j] = l[j], l[i]
	}
	return l
}

// mixed are pairs of at most count keys of a fixed row.
func mixed(s *steps, count, most int, alphabet string) []api.Pair {
	var keys []string
	for range count {
		keys = append(keys, s.word(most, alphabet))
	}
	return rising(keys...)
}

// sets are many sets of pairs.
func sets() [][]api.Pair {
	all := [][]api.Pair{nil, {}}
	for i, a := range some() {
		all = append(all, pairs(a), []api.Pair{{Key: []byte(a), Val: math.MaxUint64}}, []api.Pair{{Key: []byte(a)}})
		for _, b := range some()[i+1:] {
			all = append(all, pairs(a, b), rising(a, b, "\x01\x02"), rising(a, b, "", "\xff\xff\x07"))
		}
	}
	all = append(all, pairs(some()...))
	for i, order := range orders() {
		for j, count := range edges() {
			for k, part := range []string{"", "\x00", "part", "\xff\xff"} {
				all = append(all, fan(part, (i+j+k)%2 == 0, order[:count]))
			}
		}
	}
	var chain, comb []string
	for i := range 60 {
		chain = append(chain, long(i))
		comb = append(comb, long(i), long(i)+"\x80", long(i)+"\x80\x80", long(i)+"\x81")
	}
	all = append(all, pairs(chain...), rising(comb...), pairs(chain[7:]...), rising(comb[11:]...))

	s := steps(1)
	for i := range 60 {
		all = append(all, mixed(&s, 1+i, 9, "\x00\xff"), mixed(&s, 1+i*3, 6, "\x00\x01\xff"), mixed(&s, 1+i*4, 3, string(orders()[2])))
	}
	return all
}

// few are every seventh of them.
func few() [][]api.Pair {
	var l [][]api.Pair
	for i, set := range sets() {
		if i%7 == 0 {
			l = append(l, set)
		}
	}
	return l
}

// around are keys that are like a key, or nearly: itself, one byte shorter or longer, and such as part from it at its first bytes, in its middle and at its last ones.
func around(k string) []string {
	all := []string{k, k + "\x00", k + "\x01", k + "\xff", k + "more", k + k}
	for _, at := range []int{0, 1, len(k) / 2, len(k) - 2, len(k) - 1} {
		if at < 0 || at >= len(k) {
			continue
		}
		all = append(all, k[:at], k[at:])
		for _, by := range []byte{1, 128, 255} {
			other := []byte(k)
			other[at] += by
			all = append(all, string(other))
		}
	}
	return all
}

// beside are keys that end in a node, or part there: ahead of its part, in it, and behind it by a byte that a kid stands by, and by others.
func beside(way string, n *node.Node) []string {
	part := string(n.Part())
	all := around(way + part)
	for i := range part {
		all = append(all, way+part[:i], way+part[:i]+string([]byte{part[i] + 1})+part[i+1:])
	}
	for _, b := range []byte{0, 1, 7, 127, 128, 254, 255} {
		all = append(all, way+part+string([]byte{b}), way+part+string([]byte{b, b}))
	}
	for b, kid := n.Next(0); kid != nil; b, kid = n.Next(int(b) + 1) {
		all = append(all, beside(way+part+string([]byte{b}), kid)...)
	}
	return all
}

// looked are keys that are taken out: around the keys of some pairs, and beside the nodes of their tree, each once, in a fixed order that mixes them.
func looked(t *testing.T, l []api.Pair) []string {
	t.Helper()
	all := map[string]bool{}
	for _, k := range slices.Concat(some(), beside("", built(t, 0, l))) {
		all[k] = true
	}
	keys := slices.Sorted(maps.Keys(all))
	s := steps(len(keys))
	for i := range keys {
		j := i + s.below(len(keys)-i)
		keys[i], keys[j] = keys[j], keys[i]
	}
	return keys
}

func TestExample(t *testing.T) {
	var m meter.Meter
	n := built(t, 3, []api.Pair{{Key: []byte{1}, Val: 5}, {Key: []byte{1, 2}, Val: 6}})
	out, had, e := Del(n, []byte{1}, 4, &m)
	if s := canon.Shape(out); s != "L0102=6" || !had || e != api.OK || m.Count() != 1 || out.Owner() != 4 {
		t.Error(s, had, e, m.Count(), out.Owner())
	}
	if s := canon.Shape(n); s != "4<01=5:02L=6>" {
		t.Error(s)
	}
}

// The document's example of the whole: five keys of one byte, and one taken out.
func TestExampleOfTheWhole(t *testing.T) {
	for b := range 5 {
		n := built(t, 3, pairs("\x00", "\x01", "\x02", "\x03", "\x04"))
		out, had, _ := ask(t, n, string([]byte{byte(b)}), 4)
		if n.Kind() != api.Node16 || out.Kind() != api.Node4 || !had {
			t.Error(b, n.Kind(), out.Kind(), had)
		}
	}
}

// P16.1, P16.2, P16.3

// Each way to go, with the answers written out: the shape, and how many nodes are made by another owner, and by the owner of them all.
func TestRows(t *testing.T) {
	deep := []api.Pair{
		{Key: []byte("\x01\x02"), Val: 5},
		{Key: []byte("\x01\x02\x03\x04"), Val: 6},
		{Key: []byte("\x01\x02\x03\x07"), Val: 7},
		{Key: []byte("\x01\x02\xff\x09\x09"), Val: 0},
		{Key: []byte("\x01\x80"), Val: math.MaxUint64},
	}
	const was = "4<01:024<=5:034<:04L=6:07L=7>:ffL0909=0>:80L=18446744073709551615>"
	if s := shape(t, deep); s != was {
		t.Fatal(s)
	}
	wide := pairs("ab", "abc", "abdef", "abdeg", "abdehi", "b")
	for _, c := range []struct {
		l          []api.Pair
		k          string
		shape      string
		made, mine int
	}{
		// A leaf goes from a node with others, and a value from a node with kids.
		{deep, "\x01\x02\xff\x09\x09", "4<01:024<=5:034<:04L=6:07L=7>>:80L=18446744073709551615>", 2, 0},
		{deep, "\x01\x02", "4<01:024<:034<:04L=6:07L=7>:ffL0909=0>:80L=18446744073709551615>", 2, 0},
		{wide, "abdehi", "4<:614<62=5:63L=6:644<65:66L=0:67L=18446744073709551615>>:62L=10>", 3, 0},
		// A kid alone is left, a leaf or an inner node with a value, and takes the place.
		{deep, "\x01\x02\x03\x04", "4<01:024<=5:03L07=7:ffL0909=0>:80L=18446744073709551615>", 3, 0},
		{deep, "\x01\x02\x03\x07", "4<01:024<=5:03L04=6:ffL0909=0>:80L=18446744073709551615>", 3, 0},
		{deep, "\x01\x80", "4<0102=5:034<:04L=6:07L=7>:ffL0909=0>", 1, 0},
		{wide, "b", "4<6162=5:63L=6:644<65:66L=0:67L=18446744073709551615:68L69=1>>", 1, 0},
		{pairs("ab", "abcd"), "ab", "L61626364=6", 1, 0},
		{pairs("ab", "abcde", "abcdf", "c"), "c", "4<6162=5:634<64:65L=6:66L=0>>", 1, 0},
		{pairs("ab", "abcde", "abcdf"), "ab", "4<61626364:65L=6:66L=0>", 1, 0},
		{pairs("ab", "ac"), "ab", "L6163=6", 1, 0},
		{pairs("ab", "ac"), "ac", "L6162=5", 1, 0},
		// A value alone is left, and becomes a leaf.
		{pairs("ab", "abcd"), "abcd", "L6162=5", 1, 1},
		{pairs("ab", "abcd", "b"), "abcd", "4<:61L62=5:62L=0>", 2, 1},
		{pairs("", "\x00"), "\x00", "L=5", 1, 1},
		// The last one.
		{pairs("ab"), "ab", ".", 0, 0},
		{pairs(""), "", ".", 0, 0},
	} {
		out, had, made := ask(t, built(t, 3, c.l), c.k, 4)
		if s := canon.Shape(out); s != c.shape || !had || made != c.made {
			t.Errorf("%v, by another: %s, %v, %d, not %s, %d", []byte(c.k), s, had, made, c.shape, c.made)
		}
		out, had, made = ask(t, built(t, 3, c.l), c.k, 3)
		if s := canon.Shape(out); s != c.shape || !had || made != c.mine {
			t.Errorf("%v, by its owner: %s, %v, %d, not %s, %d", []byte(c.k), s, had, made, c.shape, c.mine)
		}
		check(t, c.l, c.k)
	}
	for _, k := range []string{
		"", "\x00", "\x02", "\xff\x01", // that part from the top's part in its first byte, or end there
		"\x01", "\x01\x02\x03", // that end at a node without a value
		"\x01\x00", "\x01\xff\x02\x03", "\x01\x02\x04", "\x01\x02\x03\x05\x00", // that go on by a byte that no kid stands by
		"\x01\x02\xff", "\x01\x02\xff\x09", // that end in the middle of a leaf's part, and at its beginning
		"\x01\x02\xff\x08\x09", "\x01\x02\xff\x09\x0a", // that part from it in its first byte and in its last one
		"\x01\x02\xff\x09\x09\x00\x01", "\x01\x80\x80", // that go on behind a leaf
	} {
		for _, owner := range []uint64{3, 4} {
			n := built(t, 3, deep)
			if out, had, made := ask(t, n, k, owner); out != n || had || made != 0 || canon.Shape(n) != was {
				t.Errorf("%v, by %d: %s, %v, %d", []byte(k), owner, canon.Shape(out), had, made)
			}
		}
		check(t, deep, k)
	}
}

// A node with a part of several bytes and a kid of each kind, whose part is left at each place.
func TestPartsLeftAnywhere(t *testing.T) {
	const part = "\x05part\xff"
	for _, count := range edges() {
		l := fan(part, count%2 == 0, orders()[2][:count])
		for i := range len(part) {
			head, b := part[:i], part[i]
			for _, k := range []string{head, head + string([]byte{b + 1}), head + string([]byte{b - 1, 0, 255}), head + string([]byte{b + 1}) + part[i+1:]} {
				check(t, l, k)
			}
		}
		check(t, l, part)
	}
}

func TestSets(t *testing.T) {
	for i, l := range sets() {
		if len(l) < 150 || i%5 == 0 {
			checkAll(t, l, 500)
		}
	}
}

// All keys of a few sets, and those around them.
func TestMoreOfFew(t *testing.T) {
	for _, l := range few() {
		if len(l) < 40 {
			checkAll(t, l, 100*(len(l)+1))
		}
	}
}

// Of nothing comes what it is, whoever asks.
func TestOfNothing(t *testing.T) {
	var zero node.Node
	for _, owner := range []uint64{1, 2, 1 << 32, math.MaxUint64} {
		for _, k := range append(some(), long(255), long(256), long(65534), long(65535)) {
			for _, n := range []*node.Node{nil, &zero} {
				if out, had, made := ask(t, n, k, owner); out != n || had || made != 0 {
					t.Fatalf("%s: %v, %v, %d made", brief([]byte(k)), out, had, made)
				}
			}
		}
	}
	if canon.Shape(&zero) != "." {
		t.Error("nobody's node was written to")
	}
}

// Behind the last key nothing is left: nil, and no node is made for it.
func TestLastKey(t *testing.T) {
	for _, k := range append(some(), "part", long(255), long(65534), long(65535)) {
		for _, val := range []uint64{0, 1, math.MaxUint64} {
			for _, owner := range []uint64{1, 3, 4, math.MaxUint64} {
				n := built(t, 3, []api.Pair{{Key: []byte(k), Val: val}})
				if out, had, made := ask(t, n, k, owner); out != nil || !had || made != 0 {
					t.Errorf("%s, by %d: %v, %v, %d made", brief([]byte(k)), owner, out, had, made)
				}
			}
		}
	}
}

// refused asks for what must be refused, with a meter and without; nothing is made, and nothing is changed.
func refused(t *testing.T, n *node.Node, k []byte, owner uint64, want api.Errno) {
	t.Helper()
	var m meter.Meter
	m.Made(7)
	was := picture(n)
	for _, m := range []*meter.Meter{&m, nil} {
		if out, had, e := Del(n, k, owner, m); out != nil || had || e != want {
			t.Errorf("%s, %s, owner %d: %v, %v, %v, not %v", brief(canon.Shape(n)), brief(k), owner, out, had, e, want)
		}
	}
	if m.Count() != 7 || !same(n, was) {
		t.Errorf("%s, %s, owner %d: the meter counts %d, or the tree is not what it was", brief(canon.Shape(n)), brief(k), owner, m.Count())
	}
}

func TestNobodyTakesOut(t *testing.T) {
	for _, l := range few() {
		for _, owner := range []uint64{0, 3} {
			n := built(t, owner, l)
			for _, k := range []string{"", "\x01", "\x01\x02", "\xff\xff", long(65535), long(65536), long(70000)} {
				refused(t, n, []byte(k), 0, api.ErrArg)
			}
			refused(t, n, nil, 0, api.ErrArg)
			for _, p := range l[:min(len(l), 5)] {
				refused(t, n, p.Key, 0, api.ErrArg)
			}
		}
	}
}

func TestTooLong(t *testing.T) {
	n := built(t, 3, pairs(long(65535)))
	tooLong := node.Leaf(nil, 3, []byte(long(65536)), 5) // even where the tree has it, which is not canonical
	for _, tree := range []*node.Node{nil, new(node.Node), n, tooLong, built(t, 3, pairs(some()...)), built(t, 0, pairs(some()...))} {
		for _, size := range []int{65536, 65537, 70000, 1 << 20} {
			for _, owner := range []uint64{1, 3, 4, math.MaxUint64} {
				refused(t, tree, []byte(long(size)), owner, api.ErrBig)
			}
		}
	}
}

// The longest keys there are, by other owners and by the tree's own.
func TestLongestKeys(t *testing.T) {
	k := long(65535)
	all := []string{k, k[:65534], k[:65534] + "\x80", k[:32768], k[:32768] + "\x80", "\x80" + k[1:], k[:1], "", k[:65533] + "\x80\x80"}
	for i := range len(all) + 1 {
		l := rising(all[:i]...)
		for _, k := range all {
			check(t, l, k)
		}
	}
}

// Parts become long where nodes go: those of leaves, and those of inner nodes.
func TestLongParts(t *testing.T) {
	k := long(65535)
	for _, at := range []int{0, 1, 100, 32768, 65533, 65534} {
		for _, other := range []string{k[:at], k[:at] + "\x80", k[:at] + "\x80\x80"} {
			if len(other) > 65535 {
				continue
			}
			for _, owner := range []uint64{3, 4} {
				out, had, _ := ask(t, built(t, 3, rising(k, other)), other, owner)
				if out.Kind() != api.Leaf || string(out.Part()) != k || !had {
					t.Errorf("leaf, %d, by %d: %d, %d bytes", at, owner, out.Kind(), len(out.Part()))
				}
				out, had, _ = ask(t, built(t, 3, rising(k, k[:65534]+"\x80", other)), other, owner)
				if part := k[:65534]; other != k[:65534]+"\x80" && (out.Kind() != api.Node4 || string(out.Part()) != part || !had) {
					t.Errorf("inner node, %d, by %d: %d, %d bytes", at, owner, out.Kind(), len(out.Part()))
				}
			}
		}
	}
	// One node behind the other goes, till a single part is left.
	for _, who := range whoTakes() {
		var l []api.Pair
		for at := range 200 {
			l = append(l, api.Pair{Key: []byte(k[:at]), Val: uint64(at)})
		}
		n := built(t, 3, l)
		for i := range 199 {
			n, _, _ = ask(t, n, k[:i], who(i))
			if got, want := canon.Shape(n), shape(t, l[i+1:]); got != want {
				t.Fatalf("%d: %s, not %s", i, brief(got), brief(want))
			}
		}
		if string(n.Part()) != k[:199] {
			t.Error(brief(n.Part()))
		}
	}
}

// A key that is nil is the one of no bytes.
func TestNoBytes(t *testing.T) {
	for _, set := range few() {
		for _, l := range [][]api.Pair{set, with(set, "", 0), with(set, "", math.MaxUint64), without(set, "")} {
			_, has := place(l, "")
			for _, owner := range []uint64{3, 4} {
				for _, k := range [][]byte{nil, {}, make([]byte, 0, 4)} {
					out, had, e := Del(built(t, 3, l), k, owner, nil)
					if want := shape(t, without(l, "")); canon.Shape(out) != want || had != has || e != api.OK {
						t.Fatalf("%s: %s, %v, %v, not %s", brief(shape(t, l)), brief(canon.Shape(out)), had, e, brief(want))
					}
				}
			}
			check(t, l, "")
		}
	}
}

// A meter that is nil changes nothing of what comes out.
func TestNoMeter(t *testing.T) {
	for _, l := range few() {
		for i, k := range slices.Concat(keysOf(l), looked(t, l)) {
			if i > 10 {
				break
			}
			_, has := place(l, k)
			for _, owner := range []uint64{3, 4} {
				out, had, e := Del(built(t, 3, l), []byte(k), owner, nil)
				if want := shape(t, without(l, k)); canon.Shape(out) != want || had != has || e != api.OK {
					t.Fatalf("%s, %s: %s, %v, %v", brief(shape(t, l)), brief([]byte(k)), brief(canon.Shape(out)), had, e)
				}
			}
		}
	}
}

// Nodes go from each kind to the one below as kids go out, till nothing is left of them.
func TestKinds(t *testing.T) {
	kindOf := func(count int) int {
		for _, kind := range []int{4, 16, 48} {
			if count <= kind {
				return kind
			}
		}
		return 256
	}
	for _, order := range orders() {
		for _, part := range []string{"", "part"} {
			for _, has := range []bool{false, true} {
				var l []api.Pair
				if has {
					l = with(l, part, 9)
				}
				for i, b := range order {
					l = with(l, part+string([]byte{b}), uint64(i))
				}
				mine, theirs := built(t, 3, l), built(t, 3, l)
				for i, b := range order {
					k, left := part+string([]byte{b}), 255-i
					l = without(l, k)
					was, old := picture(theirs), theirs
					theirs, _, _ = ask(t, theirs, k, uint64(i)+4)
					if !same(old, was) {
						t.Fatalf("%d kids: the tree ahead is not what it was", left)
					}
					mine, _, _ = ask(t, mine, k, 3)
					want := shape(t, l)
					if a, b := canon.Shape(mine), canon.Shape(theirs); a != want || b != want {
						t.Fatalf("%d kids: %s and %s, not %s", left, brief(a), brief(b), brief(want))
					}
					if len(l) > 1 && (mine.Kind() != kindOf(left) || theirs.Kind() != kindOf(left)) {
						t.Fatalf("%d kids: of kinds %d and %d", left, mine.Kind(), theirs.Kind())
					}
				}
			}
		}
	}
}

// What owner takes out is told by the number alone: all may.
func TestOwners(t *testing.T) {
	all := []uint64{1, 2, 3, 1 << 32, math.MaxUint64 - 1, math.MaxUint64}
	for _, l := range few() {
		for i, k := range keysOf(l) {
			if i%(len(l)/3+1) != 0 {
				continue
			}
			want := shape(t, without(l, k))
			for _, theirs := range append([]uint64{0}, all...) {
				for _, mine := range all {
					n := built(t, theirs, l)
					out, _, made := ask(t, n, k, mine)
					if s := canon.Shape(out); s != want {
						t.Fatalf("%s, %s, %d out of %d's: %s", brief(shape(t, l)), brief([]byte(k)), mine, theirs, brief(s))
					}
					if mine != theirs {
						checkMade(t, []*node.Node{n}, out, mine, made)
					}
				}
			}
		}
	}
}

// Where some nodes are of who takes out, just those are written to, and copies are made of the others.
func TestOwnersMixed(t *testing.T) {
	for _, l := range few() {
		if len(l) > 60 {
			continue
		}
		for i, k := range keysOf(l) {
			for by := range 3 {
				n := built(t, 3, l)
				var others []api.Pair // of all but every third one the values are turned by another owner: what is on their ways is then its
				for j, p := range l {
					p = api.Pair{Key: p.Key, Val: p.Val + uint64((j+i+by)%3)}
					n = putIn(t, n, string(p.Key), p.Val, 4)
					others = append(others, p)
				}
				checkMixed(t, n, others, k)
			}
		}
	}
}

// checkMixed takes a key out of a tree of pairs by owner 4, who has some of its nodes.
func checkMixed(t *testing.T, n *node.Node, l []api.Pair, k string) {
	t.Helper()
	tell := brief(canon.Shape(n)) + ", " + brief([]byte(k))
	steps := find.Steps(n, []byte(k))
	frozen := map[*node.Node][]seen{}
	for _, o := range nodes(n) {
		if o.Owner() != 4 {
			frozen[o] = picture(o)
		}
	}
	mine := 0
	onWay := n
	for left := []byte(k); onWay != nil; {
		if onWay.Owner() == 4 {
			mine++
		}
		part := onWay.Part()
		if len(left) <= len(part) || !bytes.HasPrefix(left, part) {
			break
		}
		onWay, left = onWay.Kid(left[len(part)]), left[len(part)+1:]
	}
	out, _, made := ask(t, n, k, 4)
	if s, want := canon.Shape(out), shape(t, without(l, k)); s != want {
		t.Fatalf("%s: %s, not %s", tell, brief(s), brief(want))
	}
	if made > steps-mine+2 {
		t.Fatalf("%s: %d nodes are made, of %d steps, %d of them in own nodes", tell, made, steps, mine)
	}
	for o, was := range frozen {
		if !same(o, was) {
			t.Fatalf("%s: another owner's node was written to", tell)
		}
	}
}

// A tree as deep as trees can be, whose nodes all have a value: its keys are all beginnings of the longest one.
func deepest(owner uint64) *node.Node {
	k := long(65535)
	n := node.Leaf(nil, owner, nil, 65535)
	for at := len(k) - 1; at >= 0; at-- {
		top := node.Inner(nil, owner, nil)
		top.SetVal(owner, uint64(at))
		top.SetKid(owner, k[at], n)
		n = top
	}
	return n
}

func TestDeepest(t *testing.T) {
	k := long(65535)
	for _, c := range []struct {
		k           string
		owner       uint64
		made, count int
		itself      bool
	}{
		{k, 3, 1, 65535, true},
		{k, 4, 65535, 65535, false},
		{k[:65534], 3, 0, 65535, true},
		{k[:65534], 4, 65535, 65535, false},
		{k[:30000], 3, 0, 65535, true},
		{k[:30000], 4, 30001, 65535, false},
		{k[:65534] + "\x80", 3, 0, 65536, true},
		{k[:65534] + "\x80", 4, 0, 65536, true},
		{"", 4, 1, 65535, false},
	} {
		n := deepest(3)
		steps := find.Steps(n, []byte(c.k))
		out, had, made := ask(t, n, c.k, c.owner)
		if made != c.made || made > steps+2 || had != (c.count == 65535) || find.Has(out, []byte(c.k)) || canon.Count(out) != c.count || (out == n) != c.itself || !canon.Fine(out) {
			t.Errorf("%d bytes, owner %d: %d made, %v, %d pairs", len(c.k), c.owner, made, had, canon.Count(out))
		}
	}
}

// P16.4

// What is put where nothing was, and taken out again, leaves the tree as it was, whoever does it.
func TestPutAndTakenOut(t *testing.T) {
	for i, l := range sets() {
		if len(l) > 100 && i%5 != 0 {
			continue
		}
		want := shape(t, l)
		keys := looked(t, l)
		most := 800/(len(l)+1) + 8
		for j := i % 3; j < len(keys); j += len(keys)/most + 1 {
			if _, has := place(l, keys[j]); has {
				continue
			}
			for _, who := range [][2]uint64{{3, 3}, {4, 4}, {4, 5}, {3, 4}, {4, 3}} {
				n := putIn(t, built(t, 3, l), keys[j], uint64(j), who[0])
				n, had, _ := ask(t, n, keys[j], who[1])
				if got := canon.Shape(n); got != want || !had {
					t.Fatalf("%s, %s: %s, %v, not %s", brief(l), brief([]byte(keys[j])), brief(got), had, brief(want))
				}
			}
		}
	}
}

// What is taken out, and put again, too.
func TestTakenOutAndPut(t *testing.T) {
	for i, l := range sets() {
		if len(l) > 100 && i%5 != 0 {
			continue
		}
		want := shape(t, l)
		most := 800/(len(l)+1) + 8
		for j := i % 3; j < len(l); j += len(l)/most + 1 {
			k := string(l[j].Key)
			for _, who := range [][2]uint64{{3, 3}, {4, 4}, {4, 5}, {3, 4}, {4, 3}} {
				n, had, _ := ask(t, built(t, 3, l), k, who[0])
				n = putIn(t, n, k, l[j].Val, who[1])
				if got := canon.Shape(n); got != want || !had {
					t.Fatalf("%s, %s: %s, %v, not %s", brief(l), brief([]byte(k)), brief(got), had, brief(want))
				}
			}
		}
	}
}

// Pairs come in and go out by turns: it is always the canonical tree of what is there.
func TestByTurns(t *testing.T) {
	s := steps(7)
	for _, alphabet := range []string{"\x00\xff", "\x00\x01\xff", "abcdefgh", string(orders()[2])} {
		for _, most := range []int{1, 3, 6, 12} {
			var n *node.Node
			var l []api.Pair
			for i := range 1000 {
				k, owner := s.word(most, alphabet), uint64(s.below(3))+1
				if s.below(1000) < 400+i%500 { // ever more goes out, then less again
					_, has := place(l, k)
					l = without(l, k)
					var had bool
					if n, had, _ = ask(t, n, k, owner); had != has {
						t.Fatal(brief([]byte(k)), had, has)
					}
				} else {
					l = with(l, k, uint64(i%5))
					n = putIn(t, n, k, uint64(i%5), owner)
				}
				if got, want := canon.Shape(n), shape(t, l); got != want {
					t.Fatalf("%d: %s, not %s", i, brief(got), brief(want))
				}
			}
		}
	}
}

// P16.5

// All trees that were made on the way, each by an owner of its own, stay.
func TestVersionsStay(t *testing.T) {
	for i, l := range few() {
		if len(l) > 60 {
			continue
		}
		order := inOrders(l)[i%5]
		versions := []*node.Node{built(t, 1, l)}
		pictures := [][]seen{picture(versions[0])}
		for j, p := range order {
			n, _, _ := ask(t, versions[j], string(p.Key), uint64(j)+2)
			versions, pictures = append(versions, n), append(pictures, picture(n))
		}
		// Out of each of them others are taken, and others put in, by owners of their own.
		owner := uint64(len(order)) + 2
		for j, n := range versions {
			others := []string{"", "\x01\x02", "\xff\xff\x00"}
			for _, p := range order[min(j, len(order)):] {
				others = append(others, string(p.Key))
			}
			for _, k := range others[:min(len(others), 12)] {
				ask(t, n, k, owner)
				putIn(t, n, k, 1000, owner+1)
				owner += 2
			}
		}
		for j, n := range versions {
			if !same(n, pictures[j]) {
				t.Fatalf("%s: version %d is not what it was", brief(order), j)
			}
		}
	}
}

// One owner takes many keys out of one tree of another: that one stays, and so does what was made beside it.
func TestManyByOneOwner(t *testing.T) {
	for i, l := range few() {
		n := built(t, 3, l)
		was := picture(n)
		beside, _, _ := ask(t, putIn(t, n, "beside", 1, 5), "\x01\x02", 6)
		besideWas := picture(beside)
		out, want := n, l
		for j, p := range inOrders(l)[i%5] {
			if j%3 == 2 {
				continue
			}
			out, _, _ = ask(t, out, string(p.Key), 4)
			want = without(want, string(p.Key))
		}
		if got, want := canon.Shape(out), shape(t, want); got != want {
			t.Fatalf("%s: %s, not %s", brief(l), brief(got), brief(want))
		}
		if !same(n, was) || !same(beside, besideWas) {
			t.Fatalf("%s: what was there is not what it was", brief(l))
		}
	}
}

// Two trees that one owner made of one tree of another do not hang on each other.
func TestTwoOfOne(t *testing.T) {
	for _, l := range few() {
		n := built(t, 3, l)
		for i := 0; i+1 < min(len(l), 12); i += 2 {
			first, second := string(l[i].Key), string(l[len(l)-1-i].Key)
			a, _, _ := ask(t, n, first, 4)
			was := picture(a)
			b, _, _ := ask(t, n, second, 4)
			if !same(a, was) || canon.Shape(b) != shape(t, without(l, second)) {
				t.Fatalf("%s, %s, %s", brief(l), brief([]byte(first)), brief([]byte(second)))
			}
		}
	}
}

// P16.6

// whoTakes are owners of who takes out, one behind the other: one in all (to whom the tree belongs), another one, each its own, and a few by turns.
func whoTakes() []func(i int) uint64 {
	return []func(i int) uint64{
		func(i int) uint64 { return 3 },
		func(i int) uint64 { return math.MaxUint64 },
		func(i int) uint64 { return uint64(i) + 4 },
		func(i int) uint64 { return math.MaxUint64 - uint64(i) },
		func(i int) uint64 { return uint64(i%3) + 1 },
		func(i int) uint64 { return uint64(i*i%7) + 1 },
	}
}

// inOrders are the same pairs in many orders.
func inOrders(l []api.Pair) [][]api.Pair {
	down := slices.Clone(l)
	slices.Reverse(down)
	bySize := slices.Clone(l)
	slices.SortStableFunc(bySize, func(a, b api.Pair) int { return len(b.Key) - len(a.Key) })
	s := steps(len(l))
	return [][]api.Pair{l, down, bySize, shuffled(&s, l), shuffled(&s, l), shuffled(&s, l)}
}

func TestAnyOrder(t *testing.T) {
	for i, l := range sets() {
		if len(l) > 100 && i%5 != 0 {
			continue
		}
		for j, order := range inOrders(l) {
			for w, who := range whoTakes() {
				if len(l) > 30 && (i+j+w)%6 != 0 {
					continue
				}
				n := built(t, 3, l)
				for i, p := range order {
					had := false
					if n, had, _ = ask(t, n, string(p.Key), who(i)); !had {
						t.Fatalf("%s: %s is not there", brief(order), brief(p.Key))
					}
				}
				if n != nil {
					t.Fatalf("%s: %s is left", brief(order), brief(canon.Shape(n)))
				}
			}
		}
	}
}

// Behind each key it is the canonical tree of what is still there.
func TestEachOnTheWay(t *testing.T) {
	for i, l := range few() {
		if len(l) > 60 {
			continue
		}
		for j, order := range inOrders(l) {
			who := whoTakes()[(i+j)%len(whoTakes())]
			n, all := built(t, 3, l), l
			for i, p := range order {
				n, _, _ = ask(t, n, string(p.Key), who(i))
				all = without(all, string(p.Key))
				if got, want := canon.Shape(n), shape(t, all); got != want {
					t.Fatalf("%s: %s, not %s", brief(order[:i+1]), brief(got), brief(want))
				}
			}
		}
	}
}

// All orders of five keys that begin alike, and of five that do not.
func TestAllOrders(t *testing.T) {
	var orders [][]int
	var gather func(order []int)
	gather = func(order []int) {
		if len(order) == 5 {
			orders = append(orders, slices.Clone(order))
		}
		for i := range 5 {
			if !slices.Contains(order, i) {
				gather(append(order, i))
			}
		}
	}
	gather(nil)
	if len(orders) != 120 {
		t.Fatal(len(orders))
	}
	for _, keys := range [][]string{
		{"", "\x01", "\x01\x02", "\x01\x02\x03", "\x01\x02\x03\x04"},
		{"\x00", "\x01", "\x80", "\xfe", "\xff"},
		{"\x07\x07\x01", "\x07\x07\x02", "\x07\x08\x01", "\x07\x08\x02", "\x09"},
		{"abc", "abd", "abde", "ab", "b"},
	} {
		all := rising(keys...)
		for _, order := range orders {
			for _, who := range whoTakes() {
				n, l := built(t, 3, all), all
				for i, at := range order {
					n, _, _ = ask(t, n, string(all[at].Key), who(i))
					l = without(l, string(all[at].Key))
					if got, want := canon.Shape(n), shape(t, l); got != want {
						t.Fatalf("%v: %s, not %s", order, got, want)
					}
				}
				if n != nil {
					t.Fatalf("%v: %s is left", order, canon.Shape(n))
				}
			}
		}
	}
}

// P16.7

// kidsOf are the kids of a node.
func kidsOf(n *node.Node) []Kid {
	var l []Kid
	for b, kid := n.Next(0); kid != nil; b, kid = n.Next(int(b) + 1) {
		l = append(l, Kid{b, kid})
	}
	return l
}

// leftPairs are the pairs of what is left of a node.
func leftPairs(n *node.Node, has bool, val uint64, l []Kid) []api.Pair {
	var all []api.Pair
	part := string(n.Part())
	if has {
		all = append(all, api.Pair{Key: []byte(part), Val: val})
	}
	for _, k := range l {
		for _, p := range canon.List(k.N) {
			all = append(all, api.Pair{Key: []byte(part + string([]byte{k.B}) + string(p.Key)), Val: p.Val})
		}
	}
	return all
}

// tellKids tells kids that are handed over.
func tellKids(l []Kid) string {
	s := ""
	for _, k := range l {
		s += fmt.Sprintf(" %02x%s", k.B, canon.Shape(k.N))
	}
	return brief(s)
}

// checkLeft asks for what is left of a node, and holds it against the canonical tree of those pairs.
func checkLeft(t *testing.T, n *node.Node, has bool, val uint64, l []Kid, owner uint64) {
	t.Helper()
	was := picture(n)
	all := []*node.Node{n}
	var kidsWere [][]seen
	for _, k := range l {
		all, kidsWere = append(all, k.N), append(kidsWere, picture(k.N))
	}
	old, had := n.Val()
	itself := had == has && (!has || old == val) && slices.Equal(kidsOf(n), l)
	pairs := leftPairs(n, has, val, l)
	tell := fmt.Sprint(brief(canon.Shape(n)), ", ", has, val, tellKids(l), ", by ", owner)

	var m meter.Meter
	m.Made(7)
	handed := slices.Clone(l)
	out, e := Left(n, has, val, handed, owner, &m)
	made := m.Since(7)
	if got, want := canon.Shape(out), shape(t, pairs); got != want || e != api.OK {
		t.Fatalf("%s: %s, %v, not %s", tell, brief(got), e, brief(want))
	}
	switch {
	case itself && (out != n || made != 0):
		t.Fatalf("%s: it is what it has, but %d nodes are made, or it is not the node itself", tell, made)
	case !itself && len(pairs) == 0 && (out != nil || made != 0):
		t.Fatalf("%s: nothing is left, but %d nodes are made", tell, made)
	case !itself && len(pairs) > 0 && (out == n || made != 1 || out.Owner() != owner):
		t.Fatalf("%s: %d nodes are made, it is owner %d's, or the node itself", tell, made, out.Owner())
	}
	checkMade(t, all, out, owner, made)
	if !same(n, was) || !slices.Equal(handed, l) {
		t.Fatalf("%s: the node, or the list, is not what it was", tell)
	}
	for i, k := range l {
		if !same(k.N, kidsWere[i]) {
			t.Fatalf("%s: the kid by %02x is not what it was", tell, k.B)
		}
	}
}

// someKids are lists of kids that a node could be left with: of its own, and others in their places.
func someKids(t *testing.T, s *steps, n *node.Node) [][]Kid {
	t.Helper()
	l := kidsOf(n)
	all := [][]Kid{nil, {}, l, l[:len(l)/2], l[len(l)/2:], l[:max(len(l)-1, 0)], l[min(len(l), 1):]}
	for i := 0; i < len(l); i += len(l)/5 + 1 {
		all = append(all, l[i:i+1], slices.Concat(l[:i], l[i+1:]))
	}
	for range 4 {
		var some []Kid
		odds := s.below(4) + 1
		for _, k := range l {
			if s.below(5) < odds {
				some = append(some, k)
			}
		}
		all = append(all, some)
	}
	return append(all, otherKids(t, s, n)...)
}

// otherKids are lists of kids with others than a node has, some of them of its owner.
func otherKids(t *testing.T, s *steps, n *node.Node) [][]Kid {
	t.Helper()
	var copies, fresh, moved []Kid
	inner := built(t, n.Owner(), pairs("ab", "abc", "abd"))
	for i, k := range kidsOf(n) {
		copies = append(copies, Kid{k.B, k.N.Copy(nil, uint64(i%3)+2)})
		switch s.below(4) {
		case 0:
			fresh = append(fresh, k)
		case 1:
			fresh = append(fresh, Kid{k.B, node.Leaf(nil, 3, []byte("new"), uint64(i))})
		case 2:
			fresh = append(fresh, Kid{k.B, inner})
		}
		moved = append(moved, Kid{byte(i), k.N})
	}
	b := byte(s.below(256))
	return [][]Kid{copies, fresh, moved, filled(n, s.below(60)), {{b, inner}}, {{b, n}}, {{0, inner}, {255, n}}, {{b, node.Leaf(nil, 3, nil, 0)}}}
}

// filled are so many kids by the least bytes, with others where a node has none.
func filled(n *node.Node, count int) []Kid {
	var l []Kid
	for b := range count {
		kid := n.Kid(byte(b))
		if kid == nil {
			kid = node.Leaf(nil, 4, nil, uint64(b))
		}
		l = append(l, Kid{byte(b), kid})
	}
	return l
}

// tops are inner nodes: the top ones of many trees, and a few of those that stand below.
func tops(t *testing.T, owner uint64) []*node.Node {
	t.Helper()
	var all []*node.Node
	for i, l := range sets() {
		if len(l) > 150 && i%3 != 0 {
			continue
		}
		for j, n := range nodes(built(t, owner, l)) {
			if n.Kind() != api.Leaf && (j == 0 || (i+j)%9 == 0) {
				all = append(all, n)
			}
		}
	}
	return all
}

func TestLeft(t *testing.T) {
	s := steps(3)
	for i, n := range tops(t, 3) {
		if i%20 == 0 {
			checkLeft(t, n, i%40 == 0, 7, filled(n, 256), 3)
			checkLeft(t, n, i%40 != 0, 7, filled(n, 49), 4)
		}
		for j, l := range someKids(t, &s, n) {
			old, _ := n.Val()
			if (i+j)%3 != 0 || n.Kind() > api.Node4 && (i+j)%2 != 0 {
				continue
			}
			for _, owner := range []uint64{3, 4} {
				checkLeft(t, n, false, 0, l, owner)
				checkLeft(t, n, true, old, l, owner)
				checkLeft(t, n, true, old+uint64(j), l, owner)
			}
		}
	}
}

// A value that it has not does not count, whatever number stands there.
func TestLeftWithoutVal(t *testing.T) {
	for i, n := range tops(t, 3) {
		l := kidsOf(n)
		if i%4 != 0 || len(l) > 60 {
			continue
		}
		old, _ := n.Val()
		for _, val := range []uint64{0, 1, old, old + 1, math.MaxUint64} {
			for _, l := range [][]Kid{l, l[:1], nil} {
				checkLeft(t, n, false, val, l, 4)
				checkLeft(t, n, false, val, l, 3)
				checkLeft(t, n, true, val, l, 4)
			}
		}
	}
}

// Owners are told by the number alone, and nobody's nodes are left like others.
func TestLeftOwners(t *testing.T) {
	s := steps(5)
	for _, theirs := range []uint64{0, 1, 3, math.MaxUint64} {
		for i, n := range tops(t, theirs) {
			if i%16 != 0 || n.Len() > 20 {
				continue
			}
			for _, l := range someKids(t, &s, n) {
				for _, mine := range []uint64{1, 2, 3, math.MaxUint64 - 1, math.MaxUint64} {
					checkLeft(t, n, i%2 == 0, 5, l, mine)
				}
			}
		}
	}
}

// The answers written out.
func TestLeftRows(t *testing.T) {
	n := built(t, 3, pairs("ab", "abc", "abdef", "abdeg"))
	if s := canon.Shape(n); s != "4<6162=5:63L=6:644<65:66L=0:67L=18446744073709551615>>" {
		t.Fatal(s)
	}
	c, d := Kid{'c', n.Kid('c')}, Kid{'d', n.Kid('d')}
	for _, row := range []struct {
		has   bool
		val   uint64
		l     []Kid
		shape string
		made  int
	}{
		{true, 5, []Kid{c, d}, "4<6162=5:63L=6:644<65:66L=0:67L=18446744073709551615>>", 0},
		{true, 6, []Kid{c, d}, "4<6162=6:63L=6:644<65:66L=0:67L=18446744073709551615>>", 1},
		{false, 5, []Kid{c, d}, "4<6162:63L=6:644<65:66L=0:67L=18446744073709551615>>", 1},
		{true, 5, []Kid{c}, "4<6162=5:63L=6>", 1},
		{true, 0, []Kid{d}, "4<6162=0:644<65:66L=0:67L=18446744073709551615>>", 1},
		{true, 5, nil, "L6162=5", 1},
		{false, 5, []Kid{c}, "L616263=6", 1},
		{false, 5, []Kid{d}, "4<61626465:66L=0:67L=18446744073709551615>", 1},
		{false, 0, []Kid{{0, d.N}, {255, c.N}}, "4<6162:004<65:66L=0:67L=18446744073709551615>:ffL=6>", 1},
		{false, 5, nil, ".", 0},
	} {
		for _, owner := range []uint64{3, 4} {
			var m meter.Meter
			out, e := Left(n, row.has, row.val, row.l, owner, &m)
			if s := canon.Shape(out); s != row.shape || e != api.OK || m.Count() != row.made {
				t.Errorf("%v, %d, %s: %s, %v, %d made, not %s, %d", row.has, row.val, tellKids(row.l), s, e, m.Count(), row.shape, row.made)
			}
			checkLeft(t, n, row.has, row.val, row.l, owner)
			if out, e := Left(n, row.has, row.val, row.l, owner, nil); canon.Shape(out) != row.shape || e != api.OK {
				t.Errorf("%v, %d, %s: %s, %v without a meter", row.has, row.val, tellKids(row.l), canon.Shape(out), e)
			}
		}
	}
}

// Kids of all counts, with a value and without one: the kind is that of what is left.
func TestLeftCounts(t *testing.T) {
	for _, order := range orders() {
		l := fan("part", true, order)
		n := built(t, 3, l)
		kids := kidsOf(n)
		if len(kids) != 256 {
			t.Fatal(len(kids))
		}
		for _, count := range append(edges(), 0) {
			checkLeft(t, n, true, 5, kids[:count], 4)
			checkLeft(t, n, false, 5, kids[256-count:], 4)
			checkLeft(t, n, false, 5, kids[:count], 3)
		}
	}
}

// Parts become as long as they must, where a kid alone is left.
func TestLeftLongParts(t *testing.T) {
	k := long(65535)
	for _, at := range []int{0, 1, 100, 32768, 65533} {
		n := built(t, 3, rising(k, k[:65534]+"\x80", k[:at]+"\x80"))
		for _, kid := range kidsOf(n) {
			for _, owner := range []uint64{3, 4} {
				checkLeft(t, n, false, 0, []Kid{kid}, owner)
			}
		}
	}
}

// leftRefused asks for what must be refused, with a meter and without; nothing is made, and nothing is changed.
func leftRefused(t *testing.T, n *node.Node, l []Kid, owner uint64, want api.Errno) {
	t.Helper()
	var m meter.Meter
	m.Made(7)
	was := picture(n)
	handed := slices.Clone(l)
	for _, m := range []*meter.Meter{&m, nil} {
		for _, has := range []bool{false, true} {
			for _, val := range []uint64{0, 5, math.MaxUint64} {
				if out, e := Left(n, has, val, handed, owner, m); out != nil || e != want {
					t.Errorf("%s, %s, owner %d: %v, %v, not %v", brief(canon.Shape(n)), tellKids(l), owner, out, e, want)
				}
			}
		}
	}
	if m.Count() != 7 || !same(n, was) || !slices.Equal(handed, l) {
		t.Errorf("%s, %s, owner %d: the meter counts %d, or what was handed over is not what it was", brief(canon.Shape(n)), tellKids(l), owner, m.Count())
	}
}

// Each error, and which one is told where there are several.
func TestLeftRefused(t *testing.T) {
	var zero node.Node
	leaf, other := node.Leaf(nil, 3, []byte("x"), 5), node.Leaf(nil, 0, nil, 6)
	nodes := []*node.Node{nil, &zero, leaf, built(t, 3, pairs("ab", "abc")), built(t, 0, pairs("", "b", "c")), built(t, 3, fan("part", true, orders()[0]))}
	fine := [][]Kid{nil, {}, {{1, leaf}}, {{0, leaf}, {1, other}, {255, leaf}}}
	unordered := [][]Kid{{{1, leaf}, {1, leaf}}, {{2, leaf}, {1, other}}, {{255, leaf}, {0, leaf}}, {{0, leaf}, {2, leaf}, {1, leaf}}, {{0, leaf}, {1, leaf}, {1, other}}}
	withNil := [][]Kid{{{1, nil}}, {{1, &zero}}, {{1, leaf}, {2, nil}}, {{2, leaf}, {1, nil}}, {{1, nil}, {1, nil}}, {{7, nil}, {8, leaf}, {6, leaf}}, {{0, leaf}, {255, new(node.Node)}}}
	for i, n := range nodes {
		of := []api.Errno{api.ErrNil, api.ErrNil, api.ErrKind, api.ErrOrder, api.ErrOrder, api.ErrOrder}[i]
		for _, l := range slices.Concat(fine, unordered, withNil) {
			leftRefused(t, n, l, 0, api.ErrArg)
		}
		for _, owner := range []uint64{1, 3, 4, math.MaxUint64} {
			for _, l := range withNil {
				leftRefused(t, n, l, owner, api.ErrArg)
			}
			for _, l := range unordered {
				leftRefused(t, n, l, owner, of)
			}
			for _, l := range fine {
				if of != api.ErrOrder {
					leftRefused(t, n, l, owner, of)
				} else {
					checkLeft(t, n, true, 9, l, owner)
				}
			}
		}
	}
	// More kids than there are bytes can't rise.
	var many []Kid
	for i := range 300 {
		many = append(many, Kid{byte(i), leaf})
	}
	leftRefused(t, nodes[3], many, 4, api.ErrOrder)
	// Even what it has is refused of nobody.
	leftRefused(t, nodes[3], kidsOf(nodes[3]), 0, api.ErrArg)
}

// What is left may be written to by its owner: the node that it was made of, and the kids, stay as they are.
func TestLeftIsNew(t *testing.T) {
	for i, n := range tops(t, 3) {
		l := kidsOf(n)
		if i%5 != 0 || len(l) > 60 {
			continue
		}
		was := picture(n)
		for _, l := range [][]Kid{l[:1], l[:len(l)-1], l[1:], l} {
			for _, has := range []bool{false, true} {
				out, e := Left(n, has, math.MaxUint64-77, l, 4, nil)
				if e != api.OK {
					t.Fatal(e)
				}
				if out == n {
					continue
				}
				for _, k := range keysOf(leftPairs(n, has, 0, l)) {
					out, _, _ = ask(t, out, k, 4)
				}
				if out != nil || !same(n, was) {
					t.Fatalf("%s: %s is left, or the node is not what it was", brief(canon.Shape(n)), brief(canon.Shape(out)))
				}
			}
		}
	}
}

// R4

// keysOf are the keys of pairs.
func keysOf(l []api.Pair) []string {
	var all []string
	for _, p := range l {
		all = append(all, string(p.Key))
	}
	return all
}

// roomy is the same key with room behind it, where 170 stands.
func roomy(k string) []byte {
	room := bytes.Repeat([]byte{170}, len(k)+8)
	copy(room, k)
	return room[:len(k)]
}

func TestHandedOverStays(t *testing.T) {
	for _, l := range few() {
		for i, k := range slices.Concat(keysOf(l), looked(t, l)) {
			if i > 40 {
				break
			}
			for _, owner := range []uint64{3, 4} {
				handed := roomy(k)
				out, _, e := Del(built(t, 3, l), handed, owner, nil)
				if e != api.OK || string(handed) != k || !bytes.Equal(handed[len(k):len(k)+8], bytes.Repeat([]byte{170}, 8)) {
					t.Fatalf("%s, %s: the key was written to", brief(l), brief([]byte(k)))
				}
				// Whoever handed the key over writes to it.
				all := handed[:cap(handed)]
				for at := range all {
					all[at] += 3
				}
				if got, want := canon.Shape(out), shape(t, without(l, k)); got != want {
					t.Fatalf("%s, %s: the key was kept: %s", brief(l), brief([]byte(k)), brief(got))
				}
			}
		}
	}
}

// What is refused is not written to either.
func TestRefusedStays(t *testing.T) {
	for _, owner := range []uint64{0, 3} {
		handed := roomy(long(65536))
		Del(built(t, 3, pairs(some()...)), handed, owner, nil)
		if string(handed[:cap(handed)][:65536+8]) != long(65536)+strings.Repeat("\xaa", 8) {
			t.Error("the key was written to")
		}
	}
}

// The list of kids has room behind it, and whoever handed it over writes to all of it.
func TestHandedKidsStay(t *testing.T) {
	s := steps(9)
	mark := Kid{170, node.Leaf(nil, 3, []byte("mark"), 170)}
	for i, n := range tops(t, 3) {
		if i%5 != 0 || n.Len() > 60 {
			continue
		}
		for _, l := range someKids(t, &s, n) {
			for _, has := range []bool{false, true} {
				room := append(slices.Clone(l), mark, mark)
				out, e := Left(n, has, 9, room[:len(l)], 4, nil)
				if e != api.OK || !slices.Equal(room, append(slices.Clone(l), mark, mark)) {
					t.Fatalf("%s, %s: %v, or the list was written to", brief(canon.Shape(n)), tellKids(l), e)
				}
				want := shape(t, leftPairs(n, has, 9, l))
				for at := range room {
					room[at] = mark
				}
				if got := canon.Shape(out); got != want {
					t.Fatalf("%s, %s: the list was kept: %s", brief(canon.Shape(n)), tellKids(l), brief(got))
				}
			}
		}
	}
}

// R7

// Of trees that are not canonical nothing is asked but that the calls end.
func TestNotCanonical(t *testing.T) {
	const owner = 3
	ring := func(part string, b byte, has bool) *node.Node {
		n := node.Inner(nil, owner, []byte(part))
		n.SetKid(owner, b, n)
		if has {
			n.SetVal(owner, 5)
		}
		return n
	}
	two := func() *node.Node {
		n, other := node.Inner(nil, owner, []byte("\x07")), node.Inner(nil, owner, nil)
		n.SetKid(owner, 0, other)
		other.SetKid(owner, 255, n)
		other.SetKid(owner, 7, other)
		other.SetVal(owner, 6)
		return n
	}
	short := func() *node.Node {
		n, kid := node.Inner(nil, owner, []byte("\x01")), node.Inner(nil, owner, nil)
		kid.SetVal(owner, 5)
		n.SetKid(owner, 2, kid)
		return n
	}
	twice := func() *node.Node {
		n, leaf := node.Inner(nil, owner, nil), node.Leaf(nil, owner, []byte("\x01\x02"), 5)
		n.SetKid(owner, 0, leaf)
		n.SetKid(owner, 1, leaf)
		return n
	}
	bare := func() *node.Node {
		n := node.Inner(nil, owner, []byte("\x01\x02"))
		n.SetVal(owner, 5)
		return n
	}
	tooLong := func() *node.Node { return node.Leaf(nil, owner, []byte(long(70000)), 5) }
	ways := append(some(), "\x01\x02", "\x00\x01\x02", "\x07\x00\x07", "\x07\x00", long(65535), strings.Repeat("\x00", 65535), strings.Repeat("\x07", 300))
	for _, by := range []uint64{1, owner, math.MaxUint64} {
		for _, k := range ways {
			for _, n := range []*node.Node{ring("", 0, false), ring("", 0, true), ring("", 7, true), ring("\x00", 0, true), ring("\x07\x00", 255, true),
				two(), short(), twice(), bare(), tooLong(), node.Inner(nil, owner, nil)} {
				var m meter.Meter
				has := find.Has(n, []byte(k))
				if out, had, e := Del(n, []byte(k), by, &m); e != api.OK || had != has || !has && out != n {
					t.Errorf("%s: %v, %v", brief([]byte(k)), had, e)
				}
				for _, l := range [][]Kid{nil, {{0, n}}, {{0, n}, {7, n}}} {
					if _, e := Left(n, len(k)%2 == 0, 5, l, by, &m); e != api.OK && e != api.ErrKind {
						t.Errorf("%s: %v", brief([]byte(k)), e)
					}
				}
			}
		}
	}
}
