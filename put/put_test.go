package put

import (
	"bytes"
	"fmt"
	"maps"
	"math"
	"slices"
	"strings"
	"testing"

	"spunyarn/api"
	"spunyarn/canon"
	"spunyarn/find"
	"spunyarn/meter"
	"spunyarn/node"
)

// nodes are all nodes of a tree.
func nodes(n *node.Node) []*node.Node {
	if n.Kind() == 0 {
		return nil
	}
	all := []*node.Node{n}
	for b, kid := n.Next(0); kid != nil; b, kid = n.Next(int(b) + 1) {
		all = append(all, nodes(kid)...)
	}
	return all
}

// seen is what can be told of a node, and where it stands in a tree.
type seen struct {
	node       *node.Node
	deep, by   int // how many nodes stand above it, and by which byte it is a kid
	kind       int
	owner, val uint64
	has        bool
	part       string
}

// picture is all that can be told of a tree.
func picture(n *node.Node) []seen {
	var all []seen
	var down func(n *node.Node, deep, by int)
	down = func(n *node.Node, deep, by int) {
		val, has := n.Val()
		all = append(all, seen{n, deep, by, n.Kind(), n.Owner(), val, has, string(n.Part())})
		for b, kid := n.Next(0); kid != nil; b, kid = n.Next(int(b) + 1) {
			down(kid, deep+1, int(b))
		}
	}
	down(n, 0, 0)
	return all
}

// same tells whether a tree still is as it was.
func same(n *node.Node, was []seen) bool { return slices.Equal(picture(n), was) }

// brief is a text, or its beginning and end, if it is long.
func brief(a any) string {
	s := fmt.Sprint(a)
	if len(s) > 300 {
		return s[:200] + " ... " + s[len(s)-100:]
	}
	return s
}

// built is the canonical tree of pairs.
func built(t *testing.T, owner uint64, l []api.Pair) *node.Node {
	t.Helper()
	n, e := canon.Build(nil, owner, l)
	if e != api.OK {
		t.Fatal(brief(l), e)
	}
	return n
}

// place is where a key stands among pairs that rise, or would, and whether it does.
func place(l []api.Pair, k string) (int, bool) {
	return slices.BinarySearchFunc(l, k, func(p api.Pair, k string) int { return strings.Compare(string(p.Key), k) })
}

// with are pairs that rise, with another pair in place of what they have by its key.
func with(l []api.Pair, k string, val uint64) []api.Pair {
	at, has := place(l, k)
	end := at
	if has {
		end++
	}
	return slices.Concat(l[:at], []api.Pair{{Key: []byte(k), Val: val}}, l[end:])
}

// shape is the shape of the canonical tree of pairs, by a layer that does not know of this one.
func shape(t *testing.T, l []api.Pair) string {
	t.Helper()
	return canon.Shape(built(t, 0, l))
}

// ask puts a pair, and answers the tree and how many nodes are made, as a meter that counted before tells.
func ask(t *testing.T, n *node.Node, k string, val, owner uint64) (*node.Node, int) {
	t.Helper()
	var m meter.Meter
	m.Made(7)
	out, e := Put(n, []byte(k), val, owner, &m)
	if e != api.OK {
		t.Fatalf("%s, %s: %v", brief(canon.Shape(n)), brief([]byte(k)), e)
	}
	return out, m.Since(7)
}

// check puts a pair into the canonical tree of pairs, whose nodes are all of one owner, by another one and by that one.
func check(t *testing.T, l []api.Pair, k string, val uint64) {
	t.Helper()
	const theirs, mine = 3, 4
	at, has := place(l, k)
	there := has && l[at].Val == val
	want := shape(t, with(l, k, val))
	tell := brief(shape(t, l)) + ", " + brief([]byte(k))

	n := built(t, theirs, l)
	was := picture(n)
	steps := find.Steps(n, []byte(k))
	for range 2 { // the tree stays, so that it can be put into again
		out, made := ask(t, n, k, val, mine)
		if got := canon.Shape(out); got != want {
			t.Fatalf("%s, by another: %s, not %s", tell, brief(got), brief(want))
		}
		if there && (out != n || made != 0) {
			t.Fatalf("%s, by another: is there, but %d nodes are made, or it is not the tree itself", tell, made)
		}
		if made > steps+2 {
			t.Fatalf("%s, by another: %d nodes are made, of %d steps", tell, made, steps)
		}
		checkMade(t, n, out, mine, made)
		if !same(n, was) {
			t.Fatalf("%s, by another: the tree is not what it was", tell)
		}
	}

	out, made := ask(t, n, k, val, theirs)
	if got := canon.Shape(out); got != want {
		t.Fatalf("%s, by its owner: %s, not %s", tell, brief(got), brief(want))
	}
	switch {
	case has && (made != 0 || out != n):
		t.Fatalf("%s, by its owner: has the key, but %d nodes are made, or it is not the tree itself", tell, made)
	case !has && made > 2:
		t.Fatalf("%s, by its owner: %d nodes are made", tell, made)
	case there && !same(n, was):
		t.Fatalf("%s, by its owner: is there, but the tree is not what it was", tell)
	}
	for _, o := range nodes(out) {
		if o.Owner() != theirs {
			t.Fatalf("%s, by its owner: a node is owner %d's", tell, o.Owner())
		}
	}
}

// checkMade tells whether just the nodes that a tree has and the one that it was made of has not were counted, and are its owner's.
func checkMade(t *testing.T, n, out *node.Node, owner uint64, made int) {
	t.Helper()
	old := map[*node.Node]bool{}
	for _, o := range nodes(n) {
		old[o] = true
	}
	for _, o := range nodes(out) {
		if old[o] {
			continue
		}
		made--
		if o.Owner() != owner {
			t.Fatalf("%s: a node is owner %d's, not %d's", brief(canon.Shape(out)), o.Owner(), owner)
		}
	}
	if made != 0 {
		t.Fatalf("%s: the meter counts %d nodes more than are new", brief(canon.Shape(out)), made)
	}
}

// checkAll puts keys that are there, with their values and with others, and keys beside them. What is more than can be done is thinned out.
func checkAll(t *testing.T, l []api.Pair, most int) {
	t.Helper()
	most = max(most/(len(l)+1), 12)
	for i := 0; i < len(l); i += len(l)/most + 1 {
		p := l[i]
		for _, val := range []uint64{p.Val, p.Val + 1, p.Val - 1, 0, math.MaxUint64} {
			check(t, l, string(p.Key), val)
		}
	}
	looked := looked(t, l)
	for i := most % 3; i < len(looked); i += len(looked)/most + 1 {
		check(t, l, looked[i], uint64(i)<<60+uint64(i))
	}
}

// pairs are pairs of keys that rise, with values of all sizes.
func pairs(keys ...string) []api.Pair {
	vals := []uint64{5, 6, 0, math.MaxUint64, 1, 10, 255, 1 << 32, 1 << 63, 9999999999}
	var l []api.Pair
	for i, k := range keys {
		l = append(l, api.Pair{Key: []byte(k), Val: vals[i%len(vals)] - uint64(i/len(vals))})
	}
	return l
}

// rising are the pairs of keys in any order, each once.
func rising(keys ...string) []api.Pair {
	keys = slices.Clone(keys)
	slices.Sort(keys)
	return pairs(slices.Compact(keys)...)
}

// edges are how many next bytes each kind has at least and at most, and some between.
func edges() []int {
	return []int{1, 2, 3, 4, 5, 6, 15, 16, 17, 18, 32, 47, 48, 49, 50, 100, 255, 256}
}

// orders are all bytes in several orders: from 0 on, from 255 down, and mixed.
func orders() [][]byte {
	var up, down, mixed []byte
	for i := range 256 {
		up = append(up, byte(i))
		down = append(down, byte(255-i))
		mixed = append(mixed, byte(i*77+19))
	}
	return [][]byte{up, down, mixed}
}

// fan is a key for each of the bytes, behind a part, with others behind some of them; and the part itself, if has.
func fan(part string, has bool, order []byte) []api.Pair {
	var keys []string
	if has {
		keys = append(keys, part)
	}
	for i, b := range order {
		k := part + string([]byte{b})
		switch i % 4 {
		case 0:
			keys = append(keys, k)
		case 1:
			keys = append(keys, k, k+"\x00")
		case 2:
			keys = append(keys, k+"more")
		case 3:
			keys = append(keys, k+"\x01", k+"\xff")
		}
	}
	return rising(keys...)
}

// some are short keys that begin alike here and there.
func some() []string {
	return []string{"", "\x00", "\x00\x00", "\x00\x00\x00", "\x00\x01", "\x00\xff", "\x01", "\x01\x02", "\x01\x02\x03",
		"\x01\x02\x03\x04", "\x01\x02\xff", "\x01\x03\x03", "\xfe", "\xff", "\xff\x00", "\xff\xff", "\xff\xff\xff"}
}

func long(n int) string { return strings.Repeat("\x07\x00\xff\x01", n/4+1)[:n] }

// steps are numbers of a fixed row.
type steps uint32

func (s *steps) below(n int) int {
	*s = *s*1664525 + 1013904223
	return int(*s>>16) % n
}

// word is a key of a fixed row, of at most most bytes out of an alphabet.
func (s *steps) word(most int, alphabet string) string {
	k := ""
	for range s.below(most + 1) {
		k += alphabet[s.below(len(alphabet)):][:1]
	}
	return k
}

// shuffled are pairs in an order of a fixed row.
func shuffled(s *steps, l []api.Pair) []api.Pair {
	l = slices.Clone(l)
	for i := range l {
		j := i + s.below(len(l)-i)
		l[i], l[j] = l[j], l[i]
	}
	return l
}

// mixed are pairs of at most count keys of a fixed row.
func mixed(s *steps, count, most int, alphabet string) []api.Pair {
	var keys []string
	for range count {
		keys = append(keys, s.word(most, alphabet))
	}
	return rising(keys...)
}

// sets are many sets of pairs.
func sets() [][]api.Pair {
	all := [][]api.Pair{nil, {}}
	for i, a := range some() {
		all = append(all, pairs(a), []api.Pair{{Key: []byte(a), Val: math.MaxUint64}}, []api.Pair{{Key: []byte(a)}})
		for _, b := range some()[i+1:] {
			all = append(all, pairs(a, b), rising(a, b, "\x01\x02"), rising(a, b, "", "\xff\xff\x07"))
		}
	}
	all = append(all, pairs(some()...))
	for i, order := range orders() {
		for j, count := range edges() {
			for k, part := range []string{"", "\x00", "part", "\xff\xff"} {
				all = append(all, fan(part, (i+j+k)%2 == 0, order[:count]))
			}
		}
	}
	var chain, comb []string
	for i := range 60 {
		chain = append(chain, long(i))
		comb = append(comb, long(i), long(i)+"\x80", long(i)+"\x80\x80", long(i)+"\x81")
	}
	all = append(all, pairs(chain...), rising(comb...), pairs(chain[7:]...), rising(comb[11:]...))

	s := steps(1)
	for i := range 60 {
		all = append(all, mixed(&s, 1+i, 9, "\x00\xff"), mixed(&s, 1+i*3, 6, "\x00\x01\xff"), mixed(&s, 1+i*4, 3, string(orders()[2])))
	}
	return all
}

// few are every seventh of them.
func few() [][]api.Pair {
	var l [][]api.Pair
	for i, set := range sets() {
		if i%7 == 0 {
			l = append(l, set)
		}
	}
	return l
}

// around are keys that are like a key, or nearly: itself, one byte shorter or longer, and such as part from it at its first bytes, in its middle and at its last ones.
func around(k string) []string {
	all := []string{k, k + "\x00", k + "\x01", k + "\xff", k + "more", k + k}
	for _, at := range []int{0, 1, len(k) / 2, len(k) - 2, len(k) - 1} {
		if at < 0 || at >= len(k) {
			continue
		}
		all = append(all, k[:at], k[at:])
		for _, by := range []byte{1, 128, 255} {
			other := []byte(k)
			other[at] += by
			all = append(all, string(other))
		}
	}
	return all
}

// beside are keys that end in a node, or part there: ahead of its part, in it, and behind it by a byte that a kid stands by, and by others.
func beside(way string, n *node.Node) []string {
	part := string(n.Part())
	all := around(way + part)
	for i := range part {
		all = append(all, way+part[:i], way+part[:i]+string([]byte{part[i] + 1})+part[i+1:])
	}
	for _, b := range []byte{0, 1, 7, 127, 128, 254, 255} {
		all = append(all, way+part+string([]byte{b}), way+part+string([]byte{b, b}))
	}
	for b, kid := n.Next(0); kid != nil; b, kid = n.Next(int(b) + 1) {
		all = append(all, beside(way+part+string([]byte{b}), kid)...)
	}
	return all
}

// looked are keys that are put: around the keys of some pairs, and beside the nodes of their tree, each once, in a fixed order that mixes them.
func looked(t *testing.T, l []api.Pair) []string {
	t.Helper()
	all := map[string]bool{}
	for _, k := range slices.Concat(some(), beside("", built(t, 0, l))) {
		all[k] = true
	}
	keys := slices.Sorted(maps.Keys(all))
	s := steps(len(keys))
	for i := range keys {
		j := i + s.below(len(keys)-i)
		keys[i], keys[j] = keys[j], keys[i]
	}
	return keys
}

func TestExample(t *testing.T) {
	var m meter.Meter
	n, e := Put(nil, []byte{1}, 5, 3, &m)
	if s := canon.Shape(n); s != "L01=5" || e != api.OK || m.Count() != 1 || n.Owner() != 3 {
		t.Error(s, e, m.Count(), n.Owner())
	}
}

// The document's example of the whole.
func TestExampleOfTheWhole(t *testing.T) {
	n, _ := ask(t, nil, "\x01", 5, 1)
	n, _ = ask(t, n, "\x01\x02", 6, 1)
	if s := canon.Shape(n); s != "4<01=5:02L=6>" {
		t.Error(s)
	}
}

// P15.1, P15.2, P15.3

// Each way to go, with the answers written out: the shape, and how many nodes are made by another owner, and by the owner of them all.
func TestRows(t *testing.T) {
	l := []api.Pair{
		{Key: []byte("\x01\x02"), Val: 5},
		{Key: []byte("\x01\x02\x03\x04"), Val: 6},
		{Key: []byte("\x01\x02\x03\x07"), Val: 7},
		{Key: []byte("\x01\x02\xff\x09\x09"), Val: 0},
		{Key: []byte("\x01\x80"), Val: math.MaxUint64},
	}
	const was = "4<01:024<=5:034<:04L=6:07L=7>:ffL0909=0>:80L=18446744073709551615>"
	if s := shape(t, l); s != was {
		t.Fatal(s)
	}
	for _, c := range []struct {
		k          string
		val        uint64
		shape      string
		made, mine int
	}{
		// Keys that are there, with another value and with that one.
		{"\x01\x02", 8, "4<01:024<=8:034<:04L=6:07L=7>:ffL0909=0>:80L=18446744073709551615>", 2, 0},
		{"\x01\x02", 5, was, 0, 0},
		{"\x01\x02\x03\x04", 0, "4<01:024<=5:034<:04L=0:07L=7>:ffL0909=0>:80L=18446744073709551615>", 4, 0},
		{"\x01\x02\x03\x07", 7, was, 0, 0},
		{"\x01\x02\xff\x09\x09", 0, was, 0, 0},
		{"\x01\x02\xff\x09\x09", 1, "4<01:024<=5:034<:04L=6:07L=7>:ffL0909=1>:80L=18446744073709551615>", 3, 0},
		{"\x01\x80", math.MaxUint64, was, 0, 0},
		{"\x01\x80", 0, "4<01:024<=5:034<:04L=6:07L=7>:ffL0909=0>:80L=0>", 2, 0},
		// That part from the top's part in its first byte, or end there.
		{"", 8, "4<=8:014<:024<=5:034<:04L=6:07L=7>:ffL0909=0>:80L=18446744073709551615>>", 2, 1},
		{"\x00", 8, "4<:00L=8:014<:024<=5:034<:04L=6:07L=7>:ffL0909=0>:80L=18446744073709551615>>", 3, 2},
		{"\xff\x01", 8, "4<:014<:024<=5:034<:04L=6:07L=7>:ffL0909=0>:80L=18446744073709551615>:ffL01=8>", 3, 2},
		// That end at a node without a value.
		{"\x01", 8, "4<01=8:024<=5:034<:04L=6:07L=7>:ffL0909=0>:80L=18446744073709551615>", 1, 0},
		{"\x01\x02\x03", 0, "4<01:024<=5:034<=0:04L=6:07L=7>:ffL0909=0>:80L=18446744073709551615>", 3, 0},
		// That go on by a byte that no kid stands by.
		{"\x01\x00", 8, "4<01:00L=8:024<=5:034<:04L=6:07L=7>:ffL0909=0>:80L=18446744073709551615>", 2, 1},
		{"\x01\xff\x02\x03", 8, "4<01:024<=5:034<:04L=6:07L=7>:ffL0909=0>:80L=18446744073709551615:ffL0203=8>", 2, 1},
		{"\x01\x02\x04", 8, "4<01:024<=5:034<:04L=6:07L=7>:04L=8:ffL0909=0>:80L=18446744073709551615>", 3, 1},
		{"\x01\x02\x03\x05\x00", 8, "4<01:024<=5:034<:04L=6:05L00=8:07L=7>:ffL0909=0>:80L=18446744073709551615>", 4, 1},
		// That end in the middle of a leaf's part, and at its beginning.
		{"\x01\x02\xff", 8, "4<01:024<=5:034<:04L=6:07L=7>:ff4<=8:09L09=0>>:80L=18446744073709551615>", 4, 1},
		{"\x01\x02\xff\x09", 8, "4<01:024<=5:034<:04L=6:07L=7>:ff4<09=8:09L=0>>:80L=18446744073709551615>", 4, 1},
		// That part from it in its first byte and in its last one.
		{"\x01\x02\xff\x08\x09", 8, "4<01:024<=5:034<:04L=6:07L=7>:ff4<:08L09=8:09L09=0>>:80L=18446744073709551615>", 5, 2},
		{"\x01\x02\xff\x09\x0a", 8, "4<01:024<=5:034<:04L=6:07L=7>:ff4<09:09L=0:0aL=8>>:80L=18446744073709551615>", 5, 2},
		// That go on behind a leaf.
		{"\x01\x02\xff\x09\x09\x00\x01", 8, "4<01:024<=5:034<:04L=6:07L=7>:ff4<0909=0:00L01=8>>:80L=18446744073709551615>", 4, 2},
		{"\x01\x80\x80", 8, "4<01:024<=5:034<:04L=6:07L=7>:ffL0909=0>:804<=18446744073709551615:80L=8>>", 3, 2},
	} {
		out, made := ask(t, built(t, 3, l), c.k, c.val, 4)
		if s := canon.Shape(out); s != c.shape || made != c.made {
			t.Errorf("%v, by another: %s, %d, not %s, %d", []byte(c.k), s, made, c.shape, c.made)
		}
		out, made = ask(t, built(t, 3, l), c.k, c.val, 3)
		if s := canon.Shape(out); s != c.shape || made != c.mine {
			t.Errorf("%v, by its owner: %s, %d, not %s, %d", []byte(c.k), s, made, c.shape, c.mine)
		}
		check(t, l, c.k, c.val)
	}
}

// A node with a part of several bytes and a kid of each kind, whose part is cut at each place.
func TestPartsCutAnywhere(t *testing.T) {
	for _, count := range edges() {
		l := fan("\x05part\xff", count%2 == 0, orders()[2][:count])
		for i := range len("\x05part\xff") {
			head, b := "\x05part\xff"[:i], "\x05part\xff"[i]
			for _, k := range []string{head, head + string([]byte{b + 1}), head + string([]byte{b - 1, 0, 255})} {
				check(t, l, k, 8)
			}
		}
	}
}

func TestSets(t *testing.T) {
	for i, l := range sets() {
		if len(l) < 150 || i%5 == 0 {
			checkAll(t, l, 600)
		}
	}
}

// All keys around those of a few sets.
func TestMoreOfFew(t *testing.T) {
	for _, l := range few() {
		if len(l) < 40 {
			checkAll(t, l, 100*(len(l)+1))
		}
	}
}

// Of nothing there comes a leaf with all of the key, whoever puts.
func TestOfNothing(t *testing.T) {
	var zero node.Node
	for _, owner := range []uint64{1, 2, 1 << 32, math.MaxUint64} {
		for _, k := range append(some(), long(255), long(256), long(65534), long(65535)) {
			for _, n := range []*node.Node{nil, &zero, new(node.Node)} {
				for _, val := range []uint64{0, 1, math.MaxUint64} {
					out, made := ask(t, n, k, val, owner)
					if out.Kind() != api.Leaf || string(out.Part()) != k || out.Owner() != owner || made != 1 {
						t.Fatalf("%s: %d, %s, %d, %d made", brief([]byte(k)), out.Kind(), brief(out.Part()), out.Owner(), made)
					}
					if got, has := out.Val(); got != val || !has {
						t.Fatalf("%s: %d, %v", brief([]byte(k)), got, has)
					}
				}
			}
		}
	}
	if canon.Shape(&zero) != "." {
		t.Error("nobody's node was written to")
	}
}

// refused asks for what must be refused, with a meter and without; nothing is made, and nothing is changed.
func refused(t *testing.T, n *node.Node, k []byte, owner uint64, want api.Errno) {
	t.Helper()
	var m meter.Meter
	m.Made(7)
	was := picture(n)
	for _, m := range []*meter.Meter{&m, nil} {
		for _, val := range []uint64{0, 5, math.MaxUint64} {
			if out, e := Put(n, k, val, owner, m); out != nil || e != want {
				t.Errorf("%s, %s, owner %d: %v, %v, not %v", brief(canon.Shape(n)), brief(k), owner, out, e, want)
			}
		}
	}
	if m.Count() != 7 || !same(n, was) {
		t.Errorf("%s, %s, owner %d: the meter counts %d, or the tree is not what it was", brief(canon.Shape(n)), brief(k), owner, m.Count())
	}
}

func TestNobodyPuts(t *testing.T) {
	for _, l := range few() {
		for _, owner := range []uint64{0, 3} {
			n := built(t, owner, l)
			for _, k := range []string{"", "\x01", "\x01\x02", "\xff\xff", long(65535), long(65536), long(70000)} {
				refused(t, n, []byte(k), 0, api.ErrArg)
			}
			refused(t, n, nil, 0, api.ErrArg)
			if len(l) > 0 { // even where nothing had to be done
				if out, e := Put(n, l[0].Key, l[0].Val, 0, nil); out != nil || e != api.ErrArg {
					t.Fatal(brief(l), out, e)
				}
			}
		}
	}
}

func TestTooLong(t *testing.T) {
	n, _ := ask(t, nil, long(65535), 5, 3)
	for _, tree := range []*node.Node{nil, new(node.Node), n, built(t, 3, pairs(some()...)), built(t, 0, pairs(some()...))} {
		for _, size := range []int{65536, 65537, 70000, 1 << 20} {
			for _, owner := range []uint64{1, 3, 4, math.MaxUint64} {
				refused(t, tree, []byte(long(size)), owner, api.ErrBig)
			}
		}
	}
}

// The longest keys there are, by other owners and by the tree's own.
func TestLongestKeys(t *testing.T) {
	k := long(65535)
	all := []string{k, k[:65534], k[:65534] + "\x80", k[:32768], k[:32768] + "\x80", "\x80" + k[1:], k[:1], "", k[:65533] + "\x80\x80"}
	for i := range all {
		l := rising(all[:i]...)
		for _, k := range all {
			check(t, l, k, uint64(i)<<62)
		}
	}
}

// A key that is nil is the one of no bytes.
func TestNoBytes(t *testing.T) {
	for _, l := range few() {
		for _, owner := range []uint64{3, 4} {
			for _, val := range []uint64{0, 5, math.MaxUint64} {
				var shapes []string
				for _, k := range [][]byte{nil, {}, make([]byte, 0, 4)} {
					out, e := Put(built(t, 3, l), k, val, owner, nil)
					if e != api.OK {
						t.Fatal(e)
					}
					shapes = append(shapes, canon.Shape(out))
				}
				want := shape(t, with(l, "", val))
				if shapes[0] != want || shapes[1] != want || shapes[2] != want {
					t.Fatalf("%s: %s, not %s", brief(shape(t, l)), brief(shapes), brief(want))
				}
				check(t, l, "", val)
			}
		}
	}
}

// A meter that is nil changes nothing of what comes out.
func TestNoMeter(t *testing.T) {
	for _, l := range few() {
		for i, k := range looked(t, l) {
			if i > 10 {
				break
			}
			for _, owner := range []uint64{3, 4} {
				out, e := Put(built(t, 3, l), []byte(k), 8, owner, nil)
				if want := shape(t, with(l, k, 8)); canon.Shape(out) != want || e != api.OK {
					t.Fatalf("%s, %s: %s, %v", brief(shape(t, l)), brief([]byte(k)), brief(canon.Shape(out)), e)
				}
			}
		}
	}
}

// Nodes go from each kind to the next one as kids come in.
func TestKinds(t *testing.T) {
	kindOf := func(count int) int {
		for _, kind := range []int{4, 16, 48} {
			if count <= kind {
				return kind
			}
		}
		return 256
	}
	for _, order := range orders() {
		for _, part := range []string{"", "part"} {
			for _, has := range []bool{false, true} {
				mine, theirs := built(t, 3, nil), built(t, 3, nil)
				var l []api.Pair
				if has {
					l = with(l, part, 9)
					mine, _ = ask(t, mine, part, 9, 3)
					theirs = mine
				}
				for i, b := range order {
					k, val := part+string([]byte{b}), uint64(i)
					l = with(l, k, val)
					was := picture(theirs)
					old := theirs
					theirs, _ = ask(t, theirs, k, val, uint64(i)+4)
					if !same(old, was) {
						t.Fatalf("%d kids: the tree ahead is not what it was", i)
					}
					if i == 0 {
						mine = built(t, 3, l) // a tree of its own
					} else {
						mine, _ = ask(t, mine, k, val, 3)
					}
					want := shape(t, l)
					if a, b := canon.Shape(mine), canon.Shape(theirs); a != want || b != want {
						t.Fatalf("%d kids: %s and %s, not %s", i+1, brief(a), brief(b), brief(want))
					}
					if len(l) > 1 && (mine.Kind() != kindOf(i+1) || theirs.Kind() != kindOf(i+1)) {
						t.Fatalf("%d kids: of kinds %d and %d", i+1, mine.Kind(), theirs.Kind())
					}
				}
			}
		}
	}
}

// What owner puts is told by the number alone: all may.
func TestOwners(t *testing.T) {
	all := []uint64{1, 2, 3, 1 << 32, math.MaxUint64 - 1, math.MaxUint64}
	for _, l := range few() {
		for i, k := range looked(t, l) {
			if i > 3 {
				break
			}
			want := shape(t, with(l, k, 8))
			for _, theirs := range append([]uint64{0}, all...) {
				for _, mine := range all {
					n := built(t, theirs, l)
					out, made := ask(t, n, k, 8, mine)
					if s := canon.Shape(out); s != want {
						t.Fatalf("%s, %s, %d into %d's: %s", brief(shape(t, l)), brief([]byte(k)), mine, theirs, brief(s))
					}
					if mine != theirs {
						checkMade(t, n, out, mine, made)
					}
				}
			}
		}
	}
}

// Where some nodes are of who puts, just those are written to, and copies are made of the others.
func TestOwnersMixed(t *testing.T) {
	for _, l := range few() {
		if len(l) > 60 {
			continue
		}
		for i, k := range looked(t, l) {
			if i > 20 {
				break
			}
			n := built(t, 3, l)
			var others []api.Pair // all but every third one's values are turned by another owner: what is on their ways is then its
			for j, p := range l {
				p = api.Pair{Key: p.Key, Val: p.Val + uint64(j%3)}
				n, _ = ask(t, n, string(p.Key), p.Val, 4)
				others = append(others, p)
			}
			if at, has := place(others, k); has && others[at].Val == 8 {
				continue
			}
			steps := find.Steps(n, []byte(k))
			frozen := map[*node.Node][]seen{}
			mine := 0
			for _, o := range nodes(n) {
				if o.Owner() != 4 {
					frozen[o] = picture(o)
				}
			}
			onWay := n
			for left := []byte(k); onWay != nil; {
				if onWay.Owner() == 4 {
					mine++
				}
				part := onWay.Part()
				if len(left) <= len(part) || !bytes.HasPrefix(left, part) {
					break
				}
				onWay, left = onWay.Kid(left[len(part)]), left[len(part)+1:]
			}
			out, made := ask(t, n, k, 8, 4)
			if s, want := canon.Shape(out), shape(t, with(others, k, 8)); s != want {
				t.Fatalf("%s, not %s", brief(s), brief(want))
			}
			if made > steps-mine+2 {
				t.Fatalf("%s, %s: %d nodes are made, of %d steps, %d of them in own nodes", brief(shape(t, l)), brief([]byte(k)), made, steps, mine)
			}
			for o, was := range frozen {
				if !same(o, was) {
					t.Fatalf("%s, %s: another owner's node was written to", brief(shape(t, l)), brief([]byte(k)))
				}
			}
		}
	}
}

// A tree as deep as trees can be, whose nodes all have a value: its keys are all beginnings of the longest one.
func deepest(owner uint64) *node.Node {
	k := long(65535)
	n := node.Leaf(nil, owner, nil, 65535)
	for at := len(k) - 1; at >= 0; at-- {
		top := node.Inner(nil, owner, nil)
		top.SetVal(owner, uint64(at))
		top.SetKid(owner, k[at], n)
		n = top
	}
	return n
}

func TestDeepest(t *testing.T) {
	k := long(65535)
	for _, c := range []struct {
		k           string
		owner       uint64
		made, count int
		itself      bool
	}{
		{k, 3, 0, 65536, true},
		{k, 4, 65536, 65536, false},
		{k[:65534] + "\x80", 3, 1, 65537, true},
		{k[:65534] + "\x80", 4, 65536, 65537, false},
		{k[:30000] + "\x80" + k[30001:], 3, 1, 65537, true},
		{k[:30000] + "\x80" + k[30001:], 4, 30002, 65537, false},
	} {
		n := deepest(3)
		out, made := ask(t, n, c.k, 8, c.owner)
		val, has := find.Get(out, []byte(c.k))
		if made != c.made || val != 8 || !has || canon.Count(out) != c.count || (out == n) != c.itself || !canon.Fine(out) {
			t.Errorf("%d bytes, owner %d: %d made, %d, %v, %d pairs", len(c.k), c.owner, made, val, has, canon.Count(out))
		}
	}
}

// P15.4

// whoPuts are owners of the puts, one behind the other: one in all, each its own, and a few by turns.
func whoPuts() []func(i int) uint64 {
	return []func(i int) uint64{
		func(i int) uint64 { return 1 },
		func(i int) uint64 { return math.MaxUint64 },
		func(i int) uint64 { return uint64(i) + 1 },
		func(i int) uint64 { return math.MaxUint64 - uint64(i) },
		func(i int) uint64 { return uint64(i%3) + 1 },
		func(i int) uint64 { return uint64(i*i%7) + 1 },
	}
}

// inOrders are the same pairs in many orders, some with other values by the same keys ahead.
func inOrders(l []api.Pair) [][]api.Pair {
	down := slices.Clone(l)
	slices.Reverse(down)
	bySize := slices.Clone(l)
	slices.SortStableFunc(bySize, func(a, b api.Pair) int { return len(b.Key) - len(a.Key) })
	var other []api.Pair
	for i, p := range down {
		other = append(other, api.Pair{Key: p.Key, Val: p.Val ^ uint64(i%4)})
	}
	s := steps(len(l))
	return [][]api.Pair{l, down, bySize, shuffled(&s, l), shuffled(&s, l), slices.Concat(other, shuffled(&s, l)),
		slices.Concat(l, other, l), append(slices.Concat(shuffled(&s, other), down[:len(down)/2]), l...)}
}

func TestAnyOrder(t *testing.T) {
	for i, l := range sets() {
		if len(l) > 100 && i%5 != 0 {
			continue
		}
		want := shape(t, l)
		for j, order := range inOrders(l) {
			for w, who := range whoPuts() {
				if len(l) > 30 && (i+j+w)%6 != 0 {
					continue
				}
				var n *node.Node
				for i, p := range order {
					n, _ = ask(t, n, string(p.Key), p.Val, who(i))
				}
				if got := canon.Shape(n); got != want {
					t.Fatalf("%s: %s, not %s", brief(order), brief(got), brief(want))
				}
			}
		}
	}
}

// Behind each put it is the canonical tree of what was put till then.
func TestEachOnTheWay(t *testing.T) {
	for i, l := range few() {
		if len(l) > 60 {
			continue
		}
		for j, order := range inOrders(l) {
			who := whoPuts()[(i+j)%len(whoPuts())]
			var n *node.Node
			var all []api.Pair
			for i, p := range order {
				n, _ = ask(t, n, string(p.Key), p.Val, who(i))
				all = with(all, string(p.Key), p.Val)
				if got, want := canon.Shape(n), shape(t, all); got != want {
					t.Fatalf("%s: %s, not %s", brief(order[:i+1]), brief(got), brief(want))
				}
			}
		}
	}
}

// All orders of five keys that begin alike, and of five that do not.
func TestAllOrders(t *testing.T) {
	var orders [][]int
	var gather func(order []int)
	gather = func(order []int) {
		if len(order) == 5 {
			orders = append(orders, slices.Clone(order))
		}
		for i := range 5 {
			if !slices.Contains(order, i) {
				gather(append(order, i))
			}
		}
	}
	gather(nil)
	if len(orders) != 120 {
		t.Fatal(len(orders))
	}
	for _, keys := range [][]string{
		{"", "\x01", "\x01\x02", "\x01\x02\x03", "\x01\x02\x03\x04"},
		{"\x00", "\x01", "\x80", "\xfe", "\xff"},
		{"\x07\x07\x01", "\x07\x07\x02", "\x07\x08\x01", "\x07\x08\x02", "\x09"},
		{"abc", "abd", "abde", "ab", "b"},
	} {
		slices.Sort(keys)
		l := pairs(keys...)
		want := shape(t, l)
		for _, order := range orders {
			for _, who := range whoPuts() {
				var n *node.Node
				for i, at := range order {
					n, _ = ask(t, n, string(l[at].Key), l[at].Val, who(i))
				}
				if got := canon.Shape(n); got != want {
					t.Fatalf("%v: %s, not %s", order, got, want)
				}
			}
		}
	}
}

// P15.5

// All trees that were made on the way, each by an owner of its own, stay.
func TestVersionsStay(t *testing.T) {
	for i, l := range few() {
		if len(l) > 60 {
			continue
		}
		order := inOrders(l)[i%8]
		versions := []*node.Node{nil}
		pictures := [][]seen{picture(nil)}
		for j, p := range order {
			n, _ := ask(t, versions[j], string(p.Key), p.Val, uint64(j)+1)
			versions, pictures = append(versions, n), append(pictures, picture(n))
		}
		// Into each of them others are put, by owners of their own.
		owner := uint64(len(order)) + 1
		for j, n := range versions {
			others := []string{"", "\x01\x02", "\xff\xff\x00"}
			if j < len(order) {
				others = append(others, string(order[j].Key), string(order[j].Key)+"\x00")
			}
			for _, k := range others {
				ask(t, n, k, 1000, owner)
				owner++
			}
		}
		for j, n := range versions {
			if !same(n, pictures[j]) {
				t.Fatalf("%s: version %d is not what it was", brief(order), j)
			}
		}
	}
}

// One owner puts many pairs into one tree of another: that one stays, and so does what was put beside it.
func TestManyPutsByOneOwner(t *testing.T) {
	for _, l := range few() {
		n := built(t, 3, l)
		was := picture(n)
		keys := looked(t, l)
		keys = keys[:min(len(keys), 40)]
		beside, _ := ask(t, n, "beside", 1, 5)
		besideWas := picture(beside)
		out, want := n, l
		for i, k := range keys {
			out, _ = ask(t, out, k, uint64(i), 4)
			want = with(want, k, uint64(i))
		}
		if got, want := canon.Shape(out), shape(t, want); got != want {
			t.Fatalf("%s: %s, not %s", brief(l), brief(got), brief(want))
		}
		if !same(n, was) || !same(beside, besideWas) {
			t.Fatalf("%s: what was there is not what it was", brief(l))
		}
	}
}

// Two trees that one owner made of one tree of another do not hang on each other.
func TestTwoOfOne(t *testing.T) {
	for _, l := range few() {
		n := built(t, 3, l)
		keys := looked(t, l)
		for i := 0; i+1 < min(len(keys), 12); i += 2 {
			a, _ := ask(t, n, keys[i], 8, 4)
			was := picture(a)
			b, _ := ask(t, n, keys[i+1], 9, 4)
			if !same(a, was) || canon.Shape(b) != shape(t, with(l, keys[i+1], 9)) {
				t.Fatalf("%s, %s, %s", brief(l), brief([]byte(keys[i])), brief([]byte(keys[i+1])))
			}
		}
	}
}

// R4

// roomy is the same key with room behind it, where 170 stands.
func roomy(k string) []byte {
	room := bytes.Repeat([]byte{170}, len(k)+8)
	copy(room, k)
	return room[:len(k)]
}

func TestHandedOverStays(t *testing.T) {
	for _, l := range few() {
		for i, k := range looked(t, l) {
			if i > 20 {
				break
			}
			for _, owner := range []uint64{3, 4} {
				handed := roomy(k)
				out, e := Put(built(t, 3, l), handed, 8, owner, nil)
				if e != api.OK || string(handed) != k || !bytes.Equal(handed[len(k):len(k)+8], bytes.Repeat([]byte{170}, 8)) {
					t.Fatalf("%s, %s: the key was written to", brief(l), brief([]byte(k)))
				}
				// Whoever handed the key over writes to it.
				all := handed[:cap(handed)]
				for at := range all {
					all[at] += 3
				}
				if got, want := canon.Shape(out), shape(t, with(l, k, 8)); got != want {
					t.Fatalf("%s, %s: the key was kept: %s", brief(l), brief([]byte(k)), brief(got))
				}
			}
		}
	}
}

// What is refused is not written to either.
func TestRefusedStays(t *testing.T) {
	for _, owner := range []uint64{0, 3} {
		handed := roomy(long(65536))
		Put(built(t, 3, pairs(some()...)), handed, 8, owner, nil)
		if string(handed[:cap(handed)][:65536+8]) != long(65536)+strings.Repeat("\xaa", 8) {
			t.Error("the key was written to")
		}
	}
}

// R7

// Of trees that are not canonical nothing is asked but that the call ends.
func TestNotCanonical(t *testing.T) {
	const owner = 3
	ring := func(part string, b byte) *node.Node {
		n := node.Inner(nil, owner, []byte(part))
		n.SetKid(owner, b, n)
		return n
	}
	two := func() *node.Node {
		n, other := node.Inner(nil, owner, []byte("\x07")), node.Inner(nil, owner, nil)
		n.SetKid(owner, 0, other)
		other.SetKid(owner, 255, n)
		other.SetKid(owner, 7, other)
		return n
	}
	few := func() *node.Node {
		n := node.Inner(nil, owner, []byte("\x01"))
		n.SetKid(owner, 2, node.Inner(nil, owner, nil))
		return n
	}
	twice := func() *node.Node {
		n, leaf := node.Inner(nil, owner, nil), node.Leaf(nil, owner, []byte("\x01\x02"), 5)
		n.SetKid(owner, 0, leaf)
		n.SetKid(owner, 1, leaf)
		return n
	}
	tooLong := func() *node.Node { return node.Leaf(nil, owner, []byte(long(70000)), 5) }
	for _, by := range []uint64{1, owner, math.MaxUint64} {
		for _, k := range append(some(), long(65535), strings.Repeat("\x00", 65535), strings.Repeat("\x07", 300)) {
			for _, n := range []*node.Node{ring("", 0), ring("", 7), ring("\x00", 0), ring("\x07\x00", 255), two(), few(), twice(), tooLong(), node.Inner(nil, owner, nil)} {
				var m meter.Meter
				if out, e := Put(n, []byte(k), 8, by, &m); out == nil || e != api.OK {
					t.Errorf("%s: %v, %v", brief([]byte(k)), out, e)
				}
			}
		}
	}
}
