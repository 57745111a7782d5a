package near

import (
	"bytes"
	"fmt"
	"maps"
	"math"
	"slices"
	"strings"
	"testing"

	"spunyarn/api"
	"spunyarn/canon"
	"spunyarn/del"
	"spunyarn/node"
	"spunyarn/put"
)

// seen is what can be told of a node, and where it stands in a tree.
type seen struct {
	node       *node.Node
	deep, by   int // how many nodes stand above it, and by which byte it is a kid
	kind       int
	owner, val uint64
	has        bool
	part       string
}

// picture is all that can be told of a tree.
func picture(n *node.Node) []seen {
	var all []seen
	var down func(n *node.Node, deep, by int)
	down = func(n *node.Node, deep, by int) {
		val, has := n.Val()
		all = append(all, seen{n, deep, by, n.Kind(), n.Owner(), val, has, string(n.Part())})
		for b, kid := n.Next(0); kid != nil; b, kid = n.Next(int(b) + 1) {
			down(kid, deep+1, int(b))
		}
	}
	down(n, 0, 0)
	return all
}

// same tells whether a tree still is as it was.
func same(n *node.Node, was []seen) bool { return slices.Equal(picture(n), was) }

// brief is a text, or its beginning and end, if it is long.
func brief(a any) string {
	s := fmt.Sprint(a)
	if len(s) > 300 {
		return s[:200] + " ... " + s[len(s)-100:]
	}
	return s
}

// built is the canonical tree of pairs.
func built(t *testing.T, owner uint64, l []api.Pair) *node.Node {
	t.Helper()
	n, e := canon.Build(nil, owner, l)
	if e != api.OK {
		t.Fatal(brief(l), e)
	}
	return n
}

// place is where a key stands among pairs that rise, or would, and whether it does.
func place(l []api.Pair, k string) (int, bool) {
	return slices.BinarySearchFunc(l, k, func(p api.Pair, k string) int { return strings.Compare(string(p.Key), k) })
}

func samePair(a, b api.Pair) bool { return bytes.Equal(a.Key, b.Key) && a.Val == b.Val }

// nth is a pair of some, or none.
func nth(l []api.Pair, at int) (api.Pair, bool) {
	if at < 0 || at >= len(l) {
		return api.Pair{}, false
	}
	return l[at], true
}

// question is what is asked of a tree and a key, and which one of pairs that rise answers it: at is where the key stands among them, or would, and has whether it does.
type question struct {
	name  string
	ask   func(n *node.Node, k []byte) (api.Pair, bool)
	which func(at int, has bool) int
}

// questions are all that is asked of a key.
func questions() []question {
	return []question{
		{"Floor", Floor, func(at int, has bool) int {
			if has {
				return at
			}
			return at - 1
		}},
		{"Ceil", Ceil, func(at int, has bool) int { return at }},
		{"Lower", Lower, func(at int, has bool) int { return at - 1 }},
		{"Higher", Higher, func(at int, has bool) int {
			if has {
				return at + 1
			}
			return at
		}},
	}
}

// ends are what is asked of a tree alone, and which one of some pairs answers it.
func ends() []question {
	return []question{
		{"Min", func(n *node.Node, k []byte) (api.Pair, bool) { return Min(n) }, func(int, bool) int { return 0 }},
		{"Max", func(n *node.Node, k []byte) (api.Pair, bool) { return Max(n) }, func(count int, has bool) int { return count - 1 }},
	}
}

// held holds an answer against what pairs that rise answer.
func held(t *testing.T, q question, n *node.Node, k []byte, l []api.Pair, at int, has bool) {
	t.Helper()
	want, there := nth(l, q.which(at, has))
	got, ok := q.ask(n, k)
	if ok != there || !samePair(got, want) || !ok && got.Key != nil {
		t.Fatalf("%s, %s: %s %s, %v, not %s, %v", brief(canon.Shape(n)), brief(k), q.name, brief(got), ok, brief(want), there)
	}
}

// check asks a tree of some pairs for all that is beside a key, twice, since what is asked changes nothing.
func check(t *testing.T, n *node.Node, l []api.Pair, k string) {
	t.Helper()
	at, has := place(l, k)
	for range 2 {
		for _, q := range questions() {
			held(t, q, n, []byte(k), l, at, has)
		}
	}
}

// checkEnds asks a tree of some pairs for its ends.
func checkEnds(t *testing.T, n *node.Node, l []api.Pair) {
	t.Helper()
	for range 2 {
		for _, q := range ends() {
			held(t, q, n, nil, l, len(l), false)
		}
	}
}

// checkAll asks a tree of some pairs for its ends, and for what is beside each of its keys and beside others. What is more than can be asked is thinned out.
func checkAll(t *testing.T, n *node.Node, l []api.Pair) {
	t.Helper()
	checkEnds(t, n, l)
	for _, p := range l {
		check(t, n, l, string(p.Key))
	}
	keys := looked(n)
	for i := 0; i < len(keys); i += len(keys)/1500 + 1 {
		check(t, n, l, keys[i])
	}
}

// pairs are pairs of keys that rise, with values of all sizes.
func pairs(keys ...string) []api.Pair {
	vals := []uint64{5, 6, 0, math.MaxUint64, 1, 10, 255, 1 << 32, 1 << 63, 9999999999}
	var l []api.Pair
	for i, k := range keys {
		l = append(l, api.Pair{Key: []byte(k), Val: vals[i%len(vals)] - uint64(i/len(vals))})
	}
	return l
}

// rising are the pairs of keys in any order, each once.
func rising(keys ...string) []api.Pair {
	keys = slices.Clone(keys)
	slices.Sort(keys)
	return pairs(slices.Compact(keys)...)
}

// edges are how many next bytes each kind has at least and at most, and some between.
func edges() []int {
	return []int{1, 2, 3, 4, 5, 6, 15, 16, 17, 18, 32, 47, 48, 49, 50, 100, 255, 256}
}

// orders are all bytes in several orders: from 0 on, from 255 down, and mixed.
func orders() [][]byte {
	var up, down, mixed []byte
	for i := range 256 {
		up = append(up, byte(i))
		down = append(down, byte(255-i))
		mixed = append(mixed, byte(i*77+19))
	}
	return [][]byte{up, down, mixed}
}

// fan is a key for each of the bytes, behind a part, with others behind some of them; and the part itself, if has.
func fan(part string, has bool, order []byte) []api.Pair {
	var keys []string
	if has {
		keys = append(keys, part)
	}
	for i, b := range order {
		k := part + string([]byte{b})
		switch i % 4 {
		case 0:
			keys = append(keys, k)
		case 1:
			keys = append(keys, k, k+"\x00")
		case 2:
			keys = append(keys, k+"more")
		case 3:
			keys = append(keys, k+"\x01", k+"\xff")
		}
	}
	return rising(keys...)
}

// some are short keys that begin alike here and there.
func some() []string {
	return []string{"", "\x00", "\x00\x00", "\x00\x00\x00", "\x00\x01", "\x00\xff", "\x01", "\x01\x02", "\x01\x02\x03",
		"\x01\x02\x03\x04", "\x01\x02\xff", "\x01\x03\x03", "\xfe", "\xff", "\xff\x00", "\xff\xff", "\xff\xff\xff"}
}

func long(n int) string { return strings.Repeat("\x07\x00\xff\x01", n/4+1)[:n] }

// steps are numbers of a fixed row.
type steps uint32

func (s *steps) below(n int) int {
	*s = *s*1664525 + 1013904223
	return int(*s>>16) % n
}

// word is a key of a fixed row, of at most most bytes out of an alphabet.
func (s *steps) word(most int, alphabet string) string {
	k := ""
	for range s.below(most + 1) {
		k += alphabet[s.below(len(alphabet)):][:1]
	}
	return k
}

// mixed are pairs of at most count keys of a fixed row.
func mixed(s *steps, count, most int, alphabet string) []api.Pair {
	var keys []string
	for range count {
		keys = append(keys, s.word(most, alphabet))
	}
	return rising(keys...)
}

// sets are many sets of pairs.
func sets() [][]api.Pair {
	all := [][]api.Pair{nil, {}}
	for i, a := range some() {
		all = append(all, pairs(a), []api.Pair{{Key: []byte(a), Val: math.MaxUint64}}, []api.Pair{{Key: []byte(a)}})
		for _, b := range some()[i+1:] {
			all = append(all, pairs(a, b), rising(a, b, "\x01\x02"), rising(a, b, "", "\xff\xff\x07"))
		}
	}
	all = append(all, pairs(some()...))
	for i, order := range orders() {
		for j, count := range edges() {
			for k, part := range []string{"", "\x00", "part", "\xff\xff"} {
				all = append(all, fan(part, (i+j+k)%2 == 0, order[:count]))
			}
		}
	}
	var chain, comb []string
	for i := range 60 {
		chain = append(chain, long(i))
		comb = append(comb, long(i), long(i)+"\x80", long(i)+"\x80\x80", long(i)+"\x81")
	}
	all = append(all, pairs(chain...), rising(comb...), pairs(chain[7:]...), rising(comb[11:]...))

	s := steps(1)
	for i := range 60 {
		all = append(all, mixed(&s, 1+i, 9, "\x00\xff"), mixed(&s, 1+i*3, 6, "\x00\x01\xff"), mixed(&s, 1+i*4, 3, string(orders()[2])))
	}
	return all
}

// few are every seventh of them.
func few() [][]api.Pair {
	var l [][]api.Pair
	for i, set := range sets() {
		if i%7 == 0 {
			l = append(l, set)
		}
	}
	return l
}

// around are keys that are like a key, or nearly: itself, one byte shorter or longer, and such as part from it at its first bytes, in its middle and at its last ones.
func around(k string) []string {
	all := []string{k, k + "\x00", k + "\x01", k + "\xff", k + "more", k + k}
	for _, at := range []int{0, 1, len(k) / 2, len(k) - 2, len(k) - 1} {
		if at < 0 || at >= len(k) {
			continue
		}
		all = append(all, k[:at], k[at:])
		for _, by := range []byte{1, 128, 255} {
			other := []byte(k)
			other[at] += by
			all = append(all, string(other))
		}
	}
	return all
}

// beside are keys that end in a node, or part there to either side: ahead of its part, in it, and behind it by bytes that kids stand by, and by those next to them and others.
func beside(way string, n *node.Node) []string {
	part := string(n.Part())
	all := around(way + part)
	for i := range part {
		all = append(all, way+part[:i], way+part[:i]+string([]byte{part[i] + 1})+part[i+1:], way+part[:i]+string([]byte{part[i] - 1})+part[i+1:])
	}
	for _, b := range []byte{0, 1, 7, 127, 128, 254, 255} {
		all = append(all, way+part+string([]byte{b}), way+part+string([]byte{b, b}))
	}
	for b, kid := n.Next(0); kid != nil; b, kid = n.Next(int(b) + 1) {
		all = append(all, way+part+string([]byte{b - 1}), way+part+string([]byte{b + 1}))
		all = append(all, beside(way+part+string([]byte{b}), kid)...)
	}
	return all
}

// looked are keys that are asked for: some short ones, and those beside the nodes of a tree, each once, in a fixed order that mixes them.
func looked(n *node.Node) []string {
	all := map[string]bool{}
	for _, k := range slices.Concat(some(), beside("", n)) {
		all[k] = true
	}
	keys := slices.Sorted(maps.Keys(all))
	s := steps(len(keys))
	for i := range keys {
		j := i + s.below(len(keys)-i)
		keys[i], keys[j] = keys[j], keys[i]
	}
	return keys
}

func TestExample(t *testing.T) {
	l := []api.Pair{{Key: []byte{1}, Val: 5}, {Key: []byte{1, 2}, Val: 6}}
	n := built(t, 3, l)
	k := []byte{1, 1}
	if p, ok := Ceil(n, k); !ok || !samePair(p, l[1]) {
		t.Error("Ceil:", p, ok)
	}
	if p, ok := Floor(n, k); !ok || !samePair(p, l[0]) {
		t.Error("Floor:", p, ok)
	}
	checkAll(t, n, l)
}

// P17.1

// The ends, with the answers written out.
func TestEnds(t *testing.T) {
	for _, c := range []struct {
		keys     []string
		shape    string
		min, max string
	}{
		{[]string{""}, "L=5", "", ""},
		{[]string{"\x00"}, "L00=5", "\x00", "\x00"},
		{[]string{"ab"}, "L6162=5", "ab", "ab"},
		{[]string{"", "\x00"}, "4<=5:00L=6>", "", "\x00"},
		{[]string{"", "\xff\xff"}, "4<=5:ffLff=6>", "", "\xff\xff"},
		{[]string{"\x00", "\xff"}, "4<:00L=5:ffL=6>", "\x00", "\xff"},
		{[]string{"ab", "abc"}, "4<6162=5:63L=6>", "ab", "abc"},
		{[]string{"ab", "ac", "ad"}, "4<61:62L=5:63L=6:64L=0>", "ab", "ad"},
		{[]string{"a", "abcd", "abce", "abcef"}, "4<61=5:624<63:64L=6:654<=0:66L=18446744073709551615>>>", "a", "abcef"},
		{[]string{"abcd", "abce", "b", "ba", "bab"}, "4<:614<6263:64L=5:65L=6>:624<=0:614<=18446744073709551615:62L=1>>>", "abcd", "bab"},
		{[]string{"a\x00", "a\x00\x00", "a\xff", "a\xff\xff"}, "4<61:004<=5:00L=6>:ff4<=0:ffL=18446744073709551615>>", "a\x00", "a\xff\xff"},
	} {
		l := pairs(c.keys...)
		n := built(t, 3, l)
		if s := canon.Shape(n); s != c.shape {
			t.Fatal(s)
		}
		if p, ok := Min(n); !ok || string(p.Key) != c.min || p.Val != l[0].Val {
			t.Errorf("%s: Min %v, %v", c.shape, p, ok)
		}
		if p, ok := Max(n); !ok || string(p.Key) != c.max || p.Val != l[len(l)-1].Val {
			t.Errorf("%s: Max %v, %v", c.shape, p, ok)
		}
		checkAll(t, n, l)
	}
}

// P17.1, P17.2

// Each way to go, with the answers written out: the places of the pairs that are told, -1 and 8 where there is none.
func TestRows(t *testing.T) {
	l := []api.Pair{
		{Key: []byte("\x05\x02"), Val: 5},
		{Key: []byte("\x05\x02\x03\x04"), Val: 6},
		{Key: []byte("\x05\x02\x03\x07"), Val: 0},
		{Key: []byte("\x05\x02\xf0\x09\x09"), Val: 7},
		{Key: []byte("\x05\x80\x01\x02\x03\x10"), Val: math.MaxUint64},
		{Key: []byte("\x05\x80\x01\x02\x03\x10\x00"), Val: 8},
		{Key: []byte("\x05\x80\x01\x02\x03\x20\xff"), Val: 9},
		{Key: []byte("\x05\x81"), Val: 10},
	}
	n := built(t, 3, l)
	if s := canon.Shape(n); s != "4<05:024<=5:034<:04L=6:07L=0>:f0L0909=7>:804<010203:104<=18446744073709551615:00L=8>:20Lff=9>:81L=10>" {
		t.Fatal(s)
	}
	for _, c := range []struct {
		k                          string
		floor, ceil, lower, higher int
	}{
		// Ahead of the top node's part, in it, at its end, and behind it.
		{"", -1, 0, -1, 0},
		{"\x00", -1, 0, -1, 0},
		{"\x04", -1, 0, -1, 0},
		{"\x04\xff\xff", -1, 0, -1, 0},
		{"\x05", -1, 0, -1, 0},
		{"\x06", 7, 8, 7, 8},
		{"\x06\x00", 7, 8, 7, 8},
		{"\xff\xff\xff", 7, 8, 7, 8},

		// By a byte that no kid stands by: below all, between two, above all.
		{"\x05\x00", -1, 0, -1, 0},
		{"\x05\x01", -1, 0, -1, 0},
		{"\x05\x01\xff\xff", -1, 0, -1, 0},
		{"\x05\x03", 3, 4, 3, 4},
		{"\x05\x7f", 3, 4, 3, 4},
		{"\x05\x7f\xff", 3, 4, 3, 4},
		{"\x05\x82", 7, 8, 7, 8},
		{"\x05\xff", 7, 8, 7, 8},
		{"\x05\xff\x00", 7, 8, 7, 8},

		// At a node that has a value, and behind it.
		{"\x05\x02", 0, 0, -1, 1},
		{"\x05\x02\x00", 0, 1, 0, 1},
		{"\x05\x02\x02\xff", 0, 1, 0, 1},
		{"\x05\x02\x04", 2, 3, 2, 3},
		{"\x05\x02\xef", 2, 3, 2, 3},
		{"\x05\x02\xf1", 3, 4, 3, 4},
		{"\x05\x02\xff\xff", 3, 4, 3, 4},

		// At a node that has none, and behind it.
		{"\x05\x02\x03", 0, 1, 0, 1},
		{"\x05\x02\x03\x00", 0, 1, 0, 1},
		{"\x05\x02\x03\x03", 0, 1, 0, 1},
		{"\x05\x02\x03\x05", 1, 2, 1, 2},
		{"\x05\x02\x03\x06\xff", 1, 2, 1, 2},
		{"\x05\x02\x03\x08", 2, 3, 2, 3},
		{"\x05\x02\x03\xff", 2, 3, 2, 3},

		// At a leaf, ahead of its part, in it, and behind it.
		{"\x05\x02\x03\x04", 1, 1, 0, 2},
		{"\x05\x02\x03\x04\x00", 1, 2, 1, 2},
		{"\x05\x02\x03\x07", 2, 2, 1, 3},
		{"\x05\x02\x03\x07\xff", 2, 3, 2, 3},
		{"\x05\x02\xf0", 2, 3, 2, 3},
		{"\x05\x02\xf0\x08", 2, 3, 2, 3},
		{"\x05\x02\xf0\x08\xff", 2, 3, 2, 3},
		{"\x05\x02\xf0\x09", 2, 3, 2, 3},
		{"\x05\x02\xf0\x09\x08", 2, 3, 2, 3},
		{"\x05\x02\xf0\x09\x08\xff", 2, 3, 2, 3},
		{"\x05\x02\xf0\x09\x09", 3, 3, 2, 4},
		{"\x05\x02\xf0\x09\x09\x00", 3, 4, 3, 4},
		{"\x05\x02\xf0\x09\x0a", 3, 4, 3, 4},
		{"\x05\x02\xf0\x0a", 3, 4, 3, 4},
		{"\x05\x02\xf0\x0a\x00", 3, 4, 3, 4},

		// In the middle of an inner node's part, and aside from it at each of its bytes.
		{"\x05\x80", 3, 4, 3, 4},
		{"\x05\x80\x00", 3, 4, 3, 4},
		{"\x05\x80\x00\xff", 3, 4, 3, 4},
		{"\x05\x80\x01", 3, 4, 3, 4},
		{"\x05\x80\x01\x01\xff", 3, 4, 3, 4},
		{"\x05\x80\x01\x02", 3, 4, 3, 4},
		{"\x05\x80\x01\x02\x02", 3, 4, 3, 4},
		{"\x05\x80\x01\x02\x02\x30", 3, 4, 3, 4},
		{"\x05\x80\x01\x02\x04", 6, 7, 6, 7},
		{"\x05\x80\x01\x02\x04\x00", 6, 7, 6, 7},
		{"\x05\x80\x01\x03", 6, 7, 6, 7},
		{"\x05\x80\x01\x03\x00", 6, 7, 6, 7},
		{"\x05\x80\x02", 6, 7, 6, 7},
		{"\x05\x80\xff\xff", 6, 7, 6, 7},
		{"\x05\x80\x01\x02\x03", 3, 4, 3, 4},
		{"\x05\x80\x01\x02\x03\x0f", 3, 4, 3, 4},

		// Below it.
		{"\x05\x80\x01\x02\x03\x10", 4, 4, 3, 5},
		{"\x05\x80\x01\x02\x03\x10\x00", 5, 5, 4, 6},
		{"\x05\x80\x01\x02\x03\x10\x00\x00", 5, 6, 5, 6},
		{"\x05\x80\x01\x02\x03\x10\x01", 5, 6, 5, 6},
		{"\x05\x80\x01\x02\x03\x11", 5, 6, 5, 6},
		{"\x05\x80\x01\x02\x03\x20", 5, 6, 5, 6},
		{"\x05\x80\x01\x02\x03\x20\xfe", 5, 6, 5, 6},
		{"\x05\x80\x01\x02\x03\x20\xff", 6, 6, 5, 7},
		{"\x05\x80\x01\x02\x03\x20\xff\xff", 6, 7, 6, 7},
		{"\x05\x80\x01\x02\x03\x21", 6, 7, 6, 7},

		// The last one.
		{"\x05\x81", 7, 7, 6, 8},
		{"\x05\x81\x00", 7, 8, 7, 8},
	} {
		for i, want := range []int{c.floor, c.ceil, c.lower, c.higher} {
			q := questions()[i]
			pair, there := nth(l, want)
			if got, ok := q.ask(n, []byte(c.k)); ok != there || !samePair(got, pair) {
				t.Errorf("%v: %s %v, %v, not %v, %v", []byte(c.k), q.name, got, ok, pair, there)
			}
		}
		check(t, n, l, c.k)
	}
	checkAll(t, n, l)
}

func TestSets(t *testing.T) {
	for i, l := range sets() {
		checkAll(t, built(t, []uint64{1, 2, 3, 0, 1 << 32, math.MaxUint64}[i%6], l), l)
	}
}

// What is told is what going through all pairs tells, whatever the order.
func TestPlainly(t *testing.T) {
	s := steps(3)
	for _, l := range few() {
		if len(l) > 100 {
			continue
		}
		n := built(t, 3, l)
		keys := looked(n)
		for range 60 {
			k := s.word(5, "\x00\x01\xff\x02\x07")
			if s.below(2) == 0 {
				k = keys[s.below(len(keys))]
			}
			var floor, ceil, lower, higher []api.Pair
			for i, p := range l {
				q := l[len(l)-1-i]
				if string(p.Key) <= k {
					floor = []api.Pair{p}
				}
				if string(p.Key) < k {
					lower = []api.Pair{p}
				}
				if string(q.Key) >= k {
					ceil = []api.Pair{q}
				}
				if string(q.Key) > k {
					higher = []api.Pair{q}
				}
			}
			for i, want := range [][]api.Pair{floor, ceil, lower, higher} {
				q := questions()[i]
				got, ok := q.ask(n, []byte(k))
				if ok != (len(want) == 1) || ok && !samePair(got, want[0]) {
					t.Fatalf("%s, %v: %s %v, %v, not %v", brief(canon.Shape(n)), []byte(k), q.name, got, ok, want)
				}
			}
		}
	}
}

// Nodes of every kind, asked beside each byte, with a value and without.
func TestKinds(t *testing.T) {
	kinds := map[int]bool{}
	for i, count := range edges() {
		for j, has := range []bool{false, true} {
			l := fan("\x05", has, orders()[(i+j)%3][:count])
			n := built(t, 3, l)
			kinds[n.Kind()] = true
			checkEnds(t, n, l)
			for b := range 256 {
				k := "\x05" + string([]byte{byte(b)})
				for _, behind := range []string{"", "\x00", "\x00\x00", "\x01", "\x02", "\xff", "m", "more", "mode", "mores"} {
					check(t, n, l, k+behind)
				}
			}
			for _, k := range []string{"", "\x04", "\x04\xff", "\x05", "\x06", "\x06\x00"} {
				check(t, n, l, k)
			}
		}
	}
	if len(kinds) != 5 {
		t.Error(kinds)
	}
}

// Nodes of every kind below each other, with all their bytes but some.
func TestKindsBelow(t *testing.T) {
	order := orders()[2]
	for _, count := range []int{2, 4, 5, 16, 17, 48, 49, 255, 256} {
		var keys []string
		for i, b := range order[:count] {
			k := "\x09" + string([]byte{b})
			if i%3 == 0 {
				keys = append(keys, k)
				continue
			}
			for _, c := range order[i%100:][:i%7+2] {
				keys = append(keys, k+"\x01"+string([]byte{c}))
			}
		}
		l := rising(keys...)
		n := built(t, 0, l)
		checkAll(t, n, l)
		for b := range 256 {
			for c := range 256 {
				if (b+c)%5 == 0 {
					check(t, n, l, string([]byte{9, byte(b), 1, byte(c)}))
				}
			}
		}
	}
}

// The tree of nothing has no ends, and no key beside any.
func TestNothing(t *testing.T) {
	var zero node.Node
	for _, n := range []*node.Node{nil, &zero, new(node.Node)} {
		for _, k := range [][]byte{nil, {}, {0}, {255}, []byte("key"), []byte(long(65535)), []byte(long(65536)), []byte(long(200000))} {
			for _, q := range slices.Concat(questions(), ends()) {
				if p, ok := q.ask(n, k); ok || p.Key != nil || p.Val != 0 {
					t.Error(q.name, p, ok)
				}
			}
		}
	}
}

// A tree of one pair has it at both ends, and beside all keys of one side.
func TestOnePair(t *testing.T) {
	for _, k := range append(some(), "part", long(300), long(65535)) {
		for _, val := range []uint64{0, 1, math.MaxUint64} {
			l := []api.Pair{{Key: []byte(k), Val: val}}
			n := built(t, 3, l)
			checkEnds(t, n, l)
			for _, other := range slices.Concat(around(k), some()) {
				check(t, n, l, other)
			}
			if len(k) < 9 {
				checkAll(t, n, l)
			}
			for _, q := range slices.Concat(ends(), questions()[:2]) {
				if p, ok := q.ask(n, []byte(k)); !ok || !samePair(p, l[0]) {
					t.Error(q.name, brief(p), ok)
				}
			}
			for _, q := range questions()[2:] {
				if p, ok := q.ask(n, []byte(k)); ok || p.Key != nil || p.Val != 0 {
					t.Error(q.name, brief(p), ok)
				}
			}
		}
	}
}

// The key of no bytes, there and not, nil and empty.
func TestNoBytes(t *testing.T) {
	for _, c := range []struct {
		keys                       []string
		floor, ceil, lower, higher int
	}{
		{[]string{""}, 0, 0, -1, 1},
		{[]string{"", "\x00"}, 0, 0, -1, 1},
		{[]string{"", "\x00", "\xff"}, 0, 0, -1, 1},
		{[]string{"", "\x00\x00", "\x00\x01"}, 0, 0, -1, 1},
		{[]string{"", "\xff\xff"}, 0, 0, -1, 1},
		{[]string{"\x00"}, -1, 0, -1, 0},
		{[]string{"\x00", "\x00\x00"}, -1, 0, -1, 0},
		{[]string{"\x00", "\xff"}, -1, 0, -1, 0},
		{[]string{"\xff"}, -1, 0, -1, 0},
	} {
		l := pairs(c.keys...)
		n := built(t, 3, l)
		for _, k := range [][]byte{nil, {}, make([]byte, 0, 9)} {
			for i, want := range []int{c.floor, c.ceil, c.lower, c.higher} {
				q := questions()[i]
				pair, there := nth(l, want)
				if got, ok := q.ask(n, k); ok != there || !samePair(got, pair) {
					t.Errorf("%s: %s %v, %v, not %v, %v", canon.Shape(n), q.name, got, ok, pair, there)
				}
			}
		}
		checkAll(t, n, l)
	}
}

// Each of all keys of one and two bytes, in a tree of all of them, and of each second and third one.
func TestAllShortKeys(t *testing.T) {
	var keys []string
	for a := range 256 {
		keys = append(keys, string([]byte{byte(a)}))
		for b := range 256 {
			if b < 3 || b > 252 || b%50 == 0 {
				keys = append(keys, string([]byte{byte(a), byte(b)}))
			}
		}
	}
	for every := 1; every <= 3; every++ {
		var taken []string
		for i := 0; i < len(keys); i += every {
			taken = append(taken, keys[i])
		}
		l := rising(taken...)
		n := built(t, 3, l)
		checkEnds(t, n, l)
		check(t, n, l, "")
		for _, k := range keys {
			check(t, n, l, k)
		}
	}
}

// Each value comes with its key.
func TestValues(t *testing.T) {
	vals := []uint64{0, 1, 255, 1 << 31, 1<<32 - 1, 1 << 32, 1<<63 - 1, 1 << 63, math.MaxUint64 - 1, math.MaxUint64}
	for i, first := range vals {
		for _, keys := range [][]string{{"\x01", "\x01\x02", "\x01\x03"}, {"", "\x00", "\xff"}, {"a", "b", "c"}, {"ab\x00", "ab\xff", "ac"}} {
			var l []api.Pair
			for j, k := range keys {
				l = append(l, api.Pair{Key: []byte(k), Val: vals[(i+j*3)%len(vals)]})
			}
			n := built(t, 3, l)
			checkAll(t, n, l)
			if p, ok := Min(n); p.Val != first || !ok {
				t.Error(p, ok)
			}
			if p, ok := Lower(n, l[1].Key); p.Val != first || !ok {
				t.Error(p, ok)
			}
			if p, ok := Floor(n, l[0].Key); p.Val != first || !ok {
				t.Error(p, ok)
			}
		}
	}
}

// Keys ahead of the first one and behind the last one: there is none to tell on one side, and an end on the other.
func TestBehindTheEnds(t *testing.T) {
	for _, l := range sets() {
		if len(l) == 0 {
			continue
		}
		n := built(t, 3, l)
		lo, hi := string(l[0].Key), string(l[len(l)-1].Key)
		for _, k := range slices.Concat(around(lo), around(hi), some(), []string{long(70000), "\xff" + long(70000), strings.Repeat("\xff", 300)}) {
			for i, q := range questions() {
				down := i%2 == 0 // Floor and Lower
				got, ok := q.ask(n, []byte(k))
				switch {
				case k < lo && (ok == down || !down && string(got.Key) != lo):
					t.Fatalf("%s, %s: %s %v, %v", brief(canon.Shape(n)), brief([]byte(k)), q.name, got, ok)
				case k > hi && (ok != down || down && string(got.Key) != hi):
					t.Fatalf("%s, %s: %s %v, %v", brief(canon.Shape(n)), brief([]byte(k)), q.name, got, ok)
				}
			}
			check(t, n, l, k)
		}
	}
}

// Keys as long as they may be are told, and longer ones are asked for too.
func TestLongKeys(t *testing.T) {
	most := long(65535)
	for _, l := range [][]api.Pair{
		pairs(most),
		pairs("", most),
		pairs(most[:65534], most),
		pairs(strings.Repeat("\xff", 65535)),
		pairs(strings.Repeat("\x00", 65535)),
		pairs(strings.Repeat("\xff", 65534), strings.Repeat("\xff", 65535)),
		pairs(strings.Repeat("\x00", 65534), strings.Repeat("\x00", 65535)),
		pairs("", "\x07", most[:65534]+"\x01", most[:65534]+"\x02", most),
		rising(most[:40000], most[:40000]+"\x00", most[:40000]+"\xff"+most[:20000], most),
		rising(most[:40000]+"\x00", most[:40000]+"\xfe", most[:40000]+"\xff"+most[:25534], most),
		pairs("\x07", "\x07\x00"),
	} {
		n := built(t, 3, l)
		checkEnds(t, n, l)
		for _, size := range []int{0, 1, 2, 39999, 40000, 40001, 65533, 65534, 65535, 65536, 65537, 131070, 131072, 1 << 18} {
			for _, k := range []string{long(size), long(size) + "\x00", long(size) + "\xff", "\xff" + long(size), strings.Repeat("\x00", size), strings.Repeat("\xff", size)} {
				check(t, n, l, k)
			}
		}
		for _, p := range l {
			for _, k := range around(string(p.Key)) {
				check(t, n, l, k)
			}
		}
	}
}

// A tree as deep as trees can be, whose nodes all have a value: its keys are all beginnings of the longest one.
func TestDeepest(t *testing.T) {
	most := long(65535)
	n := node.Leaf(nil, 3, nil, 65535)
	for at := len(most) - 1; at >= 0; at-- {
		top := node.Inner(nil, 3, nil)
		top.SetVal(3, uint64(at))
		top.SetKid(3, most[at], n)
		n = top
	}
	tell := func(name string, p api.Pair, ok bool, size int) {
		t.Helper()
		if size < 0 || size > 65535 {
			if ok || p.Key != nil || p.Val != 0 {
				t.Error(name, len(p.Key), p.Val, ok, "not none")
			}
		} else if !ok || string(p.Key) != most[:size] || p.Val != uint64(size) {
			t.Error(name, len(p.Key), p.Val, ok, "not", size)
		}
	}
	p, ok := Min(n)
	tell("Min", p, ok, 0)
	p, ok = Max(n)
	tell("Max", p, ok, 65535)
	for _, size := range []int{0, 1, 2, 3, 1000, 40000, 65533, 65534, 65535, 65536, 70000} {
		// The key itself, and one that goes on by a byte behind which others go on, or ahead of which.
		asked := []string{long(size), long(size) + "\x06"}
		wants := [][]int{{size, size, size - 1, size + 1}, {size, size + 1, size, size + 1}}
		if size < 65535 && most[size] < 6 {
			wants[1] = []int{65535, 65536, 65535, 65536}
		}
		if size > 65535 {
			wants = [][]int{{65535, 65536, 65535, 65536}, {65535, 65536, 65535, 65536}}
		}
		for i, k := range asked {
			for j, q := range questions() {
				p, ok := q.ask(n, []byte(k))
				tell(q.name+" of "+brief([]byte(k)), p, ok, wants[i][j])
			}
		}
	}
}

// A tree as deep as it can be without values at its inner nodes: at each byte of the longest key another one parts from it, to one side or to the other.
func TestDeepestWithoutVals(t *testing.T) {
	most := long(65535)
	n := node.Leaf(nil, 3, nil, 65535)
	aside := func(at int) byte { return most[at] ^ 0x20 } // 27, 20, df and 21, in place of 07, 00, ff and 01
	for at := len(most) - 1; at >= 0; at-- {
		top := node.Inner(nil, 3, nil)
		top.SetKid(3, most[at], n)
		top.SetKid(3, aside(at), node.Leaf(nil, 3, nil, uint64(at)))
		n = top
	}
	// The keys beside the longest one part from it as far down as they can.
	lower, higher := 0, 0
	for at := range most {
		if aside(at) < most[at] {
			lower = at
		} else {
			higher = at
		}
	}
	for i, want := range []int{65535, 65535, lower, higher} {
		q := questions()[i]
		p, ok := q.ask(n, []byte(most))
		k := most
		if want != 65535 {
			k = most[:want] + string([]byte{aside(want)})
		}
		if !ok || string(p.Key) != k || p.Val != uint64(want) {
			t.Error(q.name, brief(p), ok)
		}
	}
	if p, ok := Min(n); !ok || string(p.Key) != "\x07\x00\xdf" || p.Val != 2 {
		t.Error("Min", brief(p), ok)
	}
	if p, ok := Max(n); !ok || string(p.Key) != "\x27" || p.Val != 0 {
		t.Error("Max", brief(p), ok)
	}

	// All of them to one side: on the other one, no node on the way has anything.
	for _, to := range []byte{1, 255} {
		all := strings.Repeat(string([]byte{128}), 65535)
		n := node.Leaf(nil, 3, nil, 65535)
		for at := len(all) - 1; at >= 0; at-- {
			top := node.Inner(nil, 3, nil)
			top.SetKid(3, 128, n)
			top.SetKid(3, to, node.Leaf(nil, 3, nil, uint64(at)))
			n = top
		}
		for i, q := range questions() {
			p, ok := q.ask(n, []byte(all))
			none := i == 2 && to == 255 || i == 3 && to == 1
			if ok == none || ok && i < 2 && string(p.Key) != all || ok && i >= 2 && string(p.Key) != all[:65534]+string([]byte{to}) {
				t.Error(to, q.name, brief(p), ok)
			}
		}
	}
}

// Trees that were put together and taken apart, by several owners.
func TestPutAndTakenOut(t *testing.T) {
	s := steps(29)
	for i, alphabet := range []string{"\x00\x01\xff\x02\x07", "\x00\xff", string(orders()[2])} {
		var n *node.Node
		table := map[string]uint64{}
		for j := range 1500 {
			k, owner := s.word(5-i, alphabet), uint64(1+s.below(3))
			var e api.Errno
			if s.below(5) < 3 {
				n, e = put.Put(n, []byte(k), uint64(j), owner, nil)
				table[k] = uint64(j)
			} else {
				n, _, e = del.Del(n, []byte(k), owner, nil)
				delete(table, k)
			}
			if e != api.OK {
				t.Fatal(e)
			}
			var l []api.Pair
			for _, k := range slices.Sorted(maps.Keys(table)) {
				l = append(l, api.Pair{Key: []byte(k), Val: table[k]})
			}
			checkEnds(t, n, l)
			for range 8 {
				check(t, n, l, s.word(6, alphabet))
			}
			if j%300 == 299 {
				checkAll(t, n, l)
			}
		}
	}
}

// P17.3

// stepped are all pairs that come by steps from one to the next one, a first one on.
func stepped(t *testing.T, n *node.Node, from api.Pair, there bool, next func(n *node.Node, k []byte) (api.Pair, bool), most int) []api.Pair {
	t.Helper()
	var all []api.Pair
	for ; there; from, there = next(n, from.Key) {
		if len(all) > most {
			t.Fatalf("%s: more come than there are", brief(canon.Shape(n)))
		}
		all = append(all, from)
	}
	return all
}

// checkSteps goes through a tree of some pairs both ways.
func checkSteps(t *testing.T, n *node.Node, l []api.Pair) {
	t.Helper()
	from, there := Min(n)
	if all := stepped(t, n, from, there, Higher, len(l)); !slices.EqualFunc(all, l, samePair) {
		t.Fatalf("%s: by Higher %s come, not %s", brief(canon.Shape(n)), brief(all), brief(l))
	}
	from, there = Max(n)
	all := stepped(t, n, from, there, Lower, len(l))
	slices.Reverse(all)
	if !slices.EqualFunc(all, l, samePair) {
		t.Fatalf("%s: by Lower %s come, not %s", brief(canon.Shape(n)), brief(all), brief(l))
	}
}

func TestStepsOfSets(t *testing.T) {
	for i, l := range sets() {
		checkSteps(t, built(t, uint64(i%3), l), l)
	}
	for _, every := range []string{"", "\xff", long(65530)} {
		l := rising(every, every+"\x00", every+"\x00\x00", every+"\xff", every+"\xff\x00", every+"\xff\xff")
		checkSteps(t, built(t, 3, l), l)
	}
}

func TestStepsOfMany(t *testing.T) {
	s := steps(31)
	for i := range 300 {
		l := mixed(&s, 1+i*2, 1+i%9, []string{"\x00\xff", "\x00\x01\xff", "\x00\x01\x02\x7f\x80\xff", string(orders()[2])}[i%4])
		n := built(t, uint64(i), l)
		checkSteps(t, n, l)
		// What is stepped over may not be there: the steps are the same from keys between.
		for j := range l {
			check(t, n, l, string(l[j].Key)+"\x00")
			check(t, n, l, string(l[j].Key)+"\xff\xff")
		}
	}
}

// P17.4

// checkBetween looks that no key stands between those that are told, on both sides of a key, and that they stand there.
func checkBetween(t *testing.T, n *node.Node, l []api.Pair, k string) {
	t.Helper()
	lower, hasLower := Lower(n, []byte(k))
	ceil, hasCeil := Ceil(n, []byte(k))
	floor, hasFloor := Floor(n, []byte(k))
	higher, hasHigher := Higher(n, []byte(k))
	wrong := hasLower && string(lower.Key) >= k || hasCeil && string(ceil.Key) < k || hasFloor && string(floor.Key) > k || hasHigher && string(higher.Key) <= k
	for _, p := range l {
		is := string(p.Key)
		if (!hasLower || is > string(lower.Key)) && (!hasCeil || is < string(ceil.Key)) {
			wrong = true
		}
		if (!hasFloor || is > string(floor.Key)) && (!hasHigher || is < string(higher.Key)) && is != k {
			wrong = true
		}
	}
	_, has := place(l, k)
	if has {
		wrong = wrong || !hasFloor || !hasCeil || string(floor.Key) != k || string(ceil.Key) != k || !samePair(floor, ceil)
	} else {
		wrong = wrong || hasFloor != hasLower || hasCeil != hasHigher || !samePair(floor, lower) || !samePair(ceil, higher)
	}
	if wrong {
		t.Fatalf("%s, %v: %v, %v, %v, %v", brief(canon.Shape(n)), brief([]byte(k)), lower, floor, ceil, higher)
	}
}

func TestBetween(t *testing.T) {
	for i, l := range sets() {
		if len(l) > 150 {
			continue
		}
		n := built(t, uint64(i%3), l)
		for _, p := range l {
			checkBetween(t, n, l, string(p.Key))
		}
		keys := looked(n)
		for j := 0; j < len(keys); j += len(keys)/250 + 1 {
			checkBetween(t, n, l, keys[j])
		}
	}
}

func TestBetweenOfMany(t *testing.T) {
	s := steps(37)
	has := [2]int{}
	for i := range 400 {
		alphabet := []string{"\x00\xff", "\x00\x01\xff", "\x00\x01\x02\x7f\x80\xff", string(orders()[2])}[i%4]
		l := mixed(&s, s.below(90), 1+i%7, alphabet)
		n := built(t, 3, l)
		for range 60 {
			k := s.word(8, alphabet)
			checkBetween(t, n, l, k)
			if _, is := place(l, k); is {
				has[1]++
			} else {
				has[0]++
			}
		}
	}
	if has[0] < 1000 || has[1] < 1000 {
		t.Error("keys that are not there, and that are:", has)
	}
}

// One is told of the other ones: what stands ahead of the higher one is the floor, and so on.
func TestThereAndBack(t *testing.T) {
	for _, l := range few() {
		n := built(t, 3, l)
		keys := looked(n)
		for j := 0; j < len(keys); j += len(keys)/300 + 1 {
			k := []byte(keys[j])
			if p, has := Higher(n, k); has {
				back, ok := Lower(n, p.Key)
				floor, is := Floor(n, k)
				if ok != is || !samePair(back, floor) {
					t.Fatalf("%s, %v: Lower of Higher is %v, not %v", brief(canon.Shape(n)), k, back, floor)
				}
			}
			if p, has := Lower(n, k); has {
				back, ok := Higher(n, p.Key)
				ceil, is := Ceil(n, k)
				if ok != is || !samePair(back, ceil) {
					t.Fatalf("%s, %v: Higher of Lower is %v, not %v", brief(canon.Shape(n)), k, back, ceil)
				}
			}
		}
	}
}

// R3

// What is written to a tree by its owner is told from then on: nothing is kept.
func TestToldAnew(t *testing.T) {
	n := built(t, 3, pairs("\x01", "\x02", "\x03", "\x04"))
	again := func(keys ...string) {
		t.Helper()
		l := canon.List(n)
		if len(l) != len(keys) {
			t.Fatal(l)
		}
		for i, k := range keys {
			if string(l[i].Key) != k {
				t.Fatal(l)
			}
		}
		checkAll(t, n, l)
		checkSteps(t, n, l)
	}
	again("\x01", "\x02", "\x03", "\x04")
	n.SetKid(3, 5, node.Leaf(nil, 3, []byte{6}, 8))
	again("\x01", "\x02", "\x03", "\x04", "\x05\x06")
	n.SetVal(3, 0)
	again("", "\x01", "\x02", "\x03", "\x04", "\x05\x06")
	n.SetPart(3, []byte{9, 9})
	again("\x09\x09", "\x09\x09\x01", "\x09\x09\x02", "\x09\x09\x03", "\x09\x09\x04", "\x09\x09\x05\x06")
	n.DropVal(3)
	n.DropKid(3, 1)
	again("\x09\x09\x02", "\x09\x09\x03", "\x09\x09\x04", "\x09\x09\x05\x06")
	n.DropKid(3, 5)
	n.DropKid(3, 3)
	again("\x09\x09\x02", "\x09\x09\x04")
}

// What is asked changes no tree, whoever owns it.
func TestTreeStays(t *testing.T) {
	for _, l := range few() {
		for _, owner := range []uint64{0, 1, math.MaxUint64} {
			n := built(t, owner, l)
			was := picture(n)
			checkAll(t, n, l)
			if !same(n, was) {
				t.Fatalf("%s is not what it was", brief(canon.Shape(n)))
			}
		}
	}
}

// R4

// roomy is the same key with room behind it, where 170 stands.
func roomy(k string) []byte {
	room := bytes.Repeat([]byte{170}, len(k)+300)
	copy(room, k)
	return room[:len(k)]
}

// stays tells whether a key that roomy gave is as it was, with its room.
func stays(handed []byte, k string) bool {
	return bytes.Equal(handed[:cap(handed)][:len(k)+300], slices.Concat([]byte(k), bytes.Repeat([]byte{170}, 300)))
}

// spoil writes to a key, and to all the room behind it.
func spoil(k []byte) {
	k = k[:cap(k)]
	for i := range k {
		k[i] += 3
	}
}

func TestHandedOverStays(t *testing.T) {
	for _, l := range few() {
		n := built(t, 3, l)
		was := picture(n)
		keys := looked(n)
		for j := 0; j < len(keys); j += len(keys)/200 + 1 {
			k := keys[j]
			at, has := place(l, k)
			for _, q := range questions() {
				handed := roomy(k)
				got, ok := q.ask(n, handed)
				if !stays(handed, k) {
					t.Fatalf("%s, %s: %s writes to the key: %s", brief(canon.Shape(n)), brief([]byte(k)), q.name, brief(handed[:len(k)+9]))
				}
				// Whoever handed the key over writes to it.
				spoil(handed)
				want, there := nth(l, q.which(at, has))
				if ok != there || !samePair(got, want) {
					t.Fatalf("%s, %s: %s keeps the key: %s", brief(canon.Shape(n)), brief([]byte(k)), q.name, brief(got))
				}
			}
			check(t, n, l, k)
		}
		if !same(n, was) {
			t.Fatalf("%s is not what it was", brief(canon.Shape(n)))
		}
	}
}

// The keys that come out may be written to, and all the room behind them.
func TestAnswersAreNew(t *testing.T) {
	for _, l := range few() {
		n := built(t, 3, l)
		was := picture(n)
		keys := append(looked(n), "")
		for j := 0; j < len(keys); j += len(keys)/200 + 1 {
			k := keys[j]
			at, has := place(l, k)
			for _, q := range slices.Concat(questions(), ends()) {
				handed := roomy(k)
				first, _ := q.ask(n, handed)
				second, _ := q.ask(n, handed)
				is := api.Pair{Key: bytes.Clone(second.Key), Val: second.Val}
				spoil(first.Key)
				if !samePair(second, is) {
					t.Fatalf("%s, %s: two answers of %s share memory", brief(canon.Shape(n)), brief([]byte(k)), q.name)
				}
				if !stays(handed, k) {
					t.Fatalf("%s, %s: %s shares memory with the key", brief(canon.Shape(n)), brief([]byte(k)), q.name)
				}
			}
			for _, q := range questions() {
				held(t, q, n, []byte(k), l, at, has)
			}
		}
		checkEnds(t, n, l)
		if !same(n, was) {
			t.Fatalf("%s shares memory with an answer", brief(canon.Shape(n)))
		}
	}
}

// A key that is told may be handed over again.
func TestAnswersHandedOver(t *testing.T) {
	for _, l := range few() {
		n := built(t, 3, l)
		p, _ := Min(n)
		for _, is := range l {
			for _, q := range questions() {
				q.ask(n, p.Key)
				if !samePair(p, is) {
					t.Fatalf("%s, %s: %s writes to the key: %s", brief(canon.Shape(n)), brief(is), q.name, brief(p))
				}
			}
			p, _ = Higher(n, p.Key)
		}
	}
}

// R7

// Of trees that are not canonical nothing is asked but that the calls end.
func TestNotCanonical(t *testing.T) {
	const owner = 3
	ring := func(part string, b byte, has bool) *node.Node {
		n := node.Inner(nil, owner, []byte(part))
		n.SetKid(owner, b, n)
		if has {
			n.SetVal(owner, 5)
		}
		return n
	}
	two := node.Inner(nil, owner, []byte("\x07"))
	other := node.Inner(nil, owner, nil)
	two.SetKid(owner, 0, other)
	other.SetKid(owner, 255, two)
	other.SetKid(owner, 7, other)
	other.SetVal(owner, 6)

	short := node.Inner(nil, owner, []byte("\x01"))
	short.SetKid(owner, 2, node.Inner(nil, owner, nil))
	twice := node.Inner(nil, owner, nil)
	for b := range 256 {
		twice.SetKid(owner, byte(b), twice)
	}
	bare := node.Inner(nil, owner, []byte("\x01\x02"))
	bare.SetVal(owner, 5)
	tooLong := node.Leaf(nil, owner, []byte(long(200000)), 5)
	below := node.Inner(nil, owner, []byte(long(40000)))
	below.SetKid(owner, 0, node.Leaf(nil, owner, []byte(long(40000)), 5))
	below.SetKid(owner, 255, below)

	ways := append(some(), "\x00\x01\x02", "\x07\x00\x07", "\x07\x00", long(65535), long(200000), strings.Repeat("\x00", 1<<20), strings.Repeat("\x07", 300),
		strings.Repeat("\x07\x00", 70000), strings.Repeat("\xff", 65536))
	for i, n := range []*node.Node{ring("", 0, false), ring("", 0, true), ring("", 255, false), ring("", 255, true), ring("", 7, true), ring("\x00", 0, true),
		ring("\x07\x00", 255, true), ring(long(70000), 1, false), two, other, short, twice, bare, tooLong, below, node.Inner(nil, owner, nil)} {
		for _, k := range ways {
			for _, q := range slices.Concat(questions(), ends()) {
				handed := roomy(k)
				p, ok := q.ask(n, handed)
				if !stays(handed, k) || !ok && (p.Key != nil || p.Val != 0) {
					t.Errorf("%d, %s: %s %s, %v", i, brief([]byte(k)), q.name, brief(p), ok)
				}
			}
		}
	}
}
