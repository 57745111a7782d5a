package keys

import (
	"bytes"
	"encoding/hex"
	"slices"
	"strings"
	"testing"

	"spunyarn/api"
)

// fewKeys are all keys of at most three bytes out of some: enough for each way in which two keys can stand to each other.
func fewKeys() [][]byte {
	all := [][]byte{{}}
	last := all
	for range 3 {
		var longer [][]byte
		for _, k := range last {
			for _, b := range []byte{0, 1, 127, 128, 254, 255} {
				longer = append(longer, append(slices.Clone(k), b))
			}
		}
		all = append(all, longer...)
		last = longer
	}
	return all
}

func filled(n int, b byte) []byte { return bytes.Repeat([]byte{b}, n) }

func pairs(ks ...[]byte) []api.Pair {
	var l []api.Pair
	for i, k := range ks {
		l = append(l, api.Pair{Key: k, Val: uint64(i)})
	}
	return l
}

// P1.1

func TestMay(t *testing.T) {
	for _, c := range []struct {
		bytes int
		want  api.Errno
	}{{0, api.OK}, {1, api.OK}, {65534, api.OK}, {65535, api.OK}, {65536, api.ErrBig}, {65537, api.ErrBig}, {200000, api.ErrBig}} {
		for _, b := range []byte{0, 255} {
			if e := May(filled(c.bytes, b)); e != c.want {
				t.Errorf("May of %d bytes %d: %v, not %v", c.bytes, b, e, c.want)
			}
		}
	}
	if e := May(nil); e != api.OK {
		t.Error("May of nil:", e)
	}
}

func TestCmpSameCommonBegins(t *testing.T) {
	ks := fewKeys()
	for _, a := range ks {
		for _, b := range ks {
			if got, want := Cmp(a, b), bytes.Compare(a, b); got != want {
				t.Fatalf("Cmp(%v, %v): %d, not %d", a, b, got, want)
			}
			if got, want := Same(a, b), bytes.Equal(a, b); got != want {
				t.Fatalf("Same(%v, %v): %v", a, b, got)
			}
			if got, want := Begins(a, b), bytes.HasPrefix(a, b); got != want {
				t.Fatalf("Begins(%v, %v): %v", a, b, got)
			}
			n := Common(a, b)
			if n > len(a) || n > len(b) || !bytes.Equal(a[:n], b[:n]) {
				t.Fatalf("Common(%v, %v): %d: they are not the same", a, b, n)
			}
			if n < len(a) && n < len(b) && a[n] == b[n] {
				t.Fatalf("Common(%v, %v): %d: more are the same", a, b, n)
			}
		}
	}
}

func TestCmpEdges(t *testing.T) {
	for _, c := range []struct {
		a, b []byte
		want int
	}{
		{nil, []byte{}, 0},
		{nil, []byte{0}, -1},
		{[]byte{1}, []byte{1, 0}, -1},
		{[]byte{1, 255}, []byte{2}, -1},
		{[]byte{127}, []byte{128}, -1},
		{filled(65535, 7), filled(65536, 7), -1},
		{filled(65535, 7), filled(65535, 7), 0},
		{append(filled(65535, 7), 1), append(filled(65535, 7), 200), -1},
	} {
		if got := Cmp(c.a, c.b); got != c.want {
			t.Errorf("Cmp of %d and %d bytes: %d, not %d", len(c.a), len(c.b), got, c.want)
		}
		if got := Cmp(c.b, c.a); got != -c.want {
			t.Errorf("Cmp of %d and %d bytes: %d, not %d", len(c.b), len(c.a), got, -c.want)
		}
		if got := Same(c.a, c.b); got != (c.want == 0) {
			t.Errorf("Same of %d and %d bytes: %v", len(c.a), len(c.b), got)
		}
	}
}

func TestCommonAndBeginsOfLongOnes(t *testing.T) {
	long, longer := filled(65535, 9), filled(65536, 9)
	if n := Common(long, longer); n != 65535 {
		t.Error("Common:", n)
	}
	if n := Common(longer, append(filled(65535, 9), 8)); n != 65535 {
		t.Error("Common:", n)
	}
	if !Begins(longer, long) || Begins(long, longer) {
		t.Error("Begins")
	}
}

func TestSorted(t *testing.T) {
	for _, c := range []struct {
		l    []api.Pair
		want bool
	}{
		{nil, true},
		{[]api.Pair{}, true},
		{pairs(nil), true},
		{pairs([]byte{9}), true},
		{pairs(nil, []byte{0}, []byte{0, 0}, []byte{0, 1}, []byte{1}), true},
		{pairs(nil, nil), false},
		{pairs([]byte{1}, []byte{1}), false},
		{pairs([]byte{1}, nil), false},
		{pairs([]byte{1, 0}, []byte{1}), false},
		{pairs([]byte{1}, []byte{2}, []byte{3}, []byte{3}), false},
		{pairs([]byte{1}, []byte{3}, []byte{2}, []byte{4}), false},
		{pairs([]byte{2}, []byte{1}, []byte{3}), false},
		{pairs(filled(65535, 255), filled(65536, 255)), true},
	} {
		if got := Sorted(c.l); got != c.want {
			t.Errorf("Sorted(%v): %v", c.l, got)
		}
	}
}

func TestSortedDoesNotLookAtValues(t *testing.T) {
	l := []api.Pair{{Key: []byte{1}, Val: 9}, {Key: []byte{2}, Val: 9}, {Key: []byte{3}, Val: 0}}
	if !Sorted(l) {
		t.Error("values tell the order")
	}
}

// P1.2

func TestNext(t *testing.T) {
	for _, c := range []struct {
		prefix, want []byte
		ok           bool
	}{
		{nil, nil, false},
		{[]byte{}, nil, false},
		{[]byte{0}, []byte{1}, true},
		{[]byte{0, 0}, []byte{0, 1}, true},
		{[]byte{254}, []byte{255}, true},
		{[]byte{255}, nil, false},
		{[]byte{255, 255, 255}, nil, false},
		{[]byte{1, 255}, []byte{2}, true},
		{[]byte{1, 2, 255, 255}, []byte{1, 3}, true},
		{[]byte{255, 0}, []byte{255, 1}, true},
		{[]byte{255, 254, 255}, []byte{255, 255}, true},
		{[]byte{1, 255, 3}, []byte{1, 255, 4}, true},
		{filled(65535, 255), nil, false},
		{append([]byte{3}, filled(65534, 255)...), []byte{4}, true},
		{append(filled(65534, 255), 6), append(filled(65534, 255), 7), true},
		{append(filled(65535, 5), 6), append(filled(65535, 5), 7), true},
	} {
		got, ok := Next(c.prefix)
		if ok != c.ok || !bytes.Equal(got, c.want) {
			t.Errorf("Next of %d bytes: %d bytes, %v", len(c.prefix), len(got), ok)
		}
	}
}

// The word's own sense, without its recipe: the least one behind all that begin with it.
func TestNextIsTheLeastBehind(t *testing.T) {
	ks := fewKeys()
	for _, p := range ks {
		next, ok := Next(p)
		for _, k := range ks {
			behind := bytes.Compare(k, p) > 0 && !bytes.HasPrefix(k, p)
			if want := ok && bytes.Compare(k, next) >= 0; behind != want {
				t.Fatalf("Next(%v) is %v, %v: wrong at %v", p, next, ok, k)
			}
		}
		if ok && (bytes.HasPrefix(next, p) || bytes.Compare(next, p) <= 0) {
			t.Fatalf("Next(%v) is %v: it is not behind", p, next)
		}
	}
}

func TestWithin(t *testing.T) {
	ks := fewKeys()[:43]
	for _, k := range ks {
		for _, from := range ks {
			for _, to := range ks {
				ahead := bytes.Compare(k, from) < 0
				if got := Within(k, from, to, true); got != !ahead {
					t.Fatalf("Within(%v, %v, %v, true): %v", k, from, to, got)
				}
				want := !ahead && bytes.Compare(k, to) < 0
				if got := Within(k, from, to, false); got != want {
					t.Fatalf("Within(%v, %v, %v, false): %v", k, from, to, got)
				}
			}
		}
	}
}

func TestWithinEdges(t *testing.T) {
	a, b := []byte{1}, []byte{2}
	if !Within(a, a, b, false) || Within(b, a, b, false) || !Within(b, a, b, true) {
		t.Error("the first one is within, the last one is not")
	}
	if Within(a, a, a, false) || Within(nil, nil, nil, false) || !Within(nil, nil, nil, true) {
		t.Error("nothing is within one and itself")
	}
	if Within(a, b, nil, true) || !Within(filled(70000, 255), a, nil, true) {
		t.Error("an open end")
	}
}

// P1.3

func TestText(t *testing.T) {
	for _, k := range fewKeys() {
		if got, want := Text(k), hex.EncodeToString(k); got != want {
			t.Fatalf("Text(%v): %q, not %q", k, got, want)
		}
	}
	for b := range 256 {
		k := []byte{byte(b)}
		if got, want := Text(k), hex.EncodeToString(k); got != want {
			t.Fatalf("Text(%v): %q, not %q", k, got, want)
		}
	}
	if Text(nil) != "" || Text([]byte{0, 10, 255}) != "000aff" {
		t.Error(Text(nil), Text([]byte{0, 10, 255}))
	}
	for _, n := range []int{65535, 65536, 70000} {
		if Text(filled(n, 171)) != strings.Repeat("ab", n) {
			t.Errorf("Text of %d bytes", n)
		}
	}
}

func TestParse(t *testing.T) {
	for _, c := range []struct {
		s    string
		want []byte
	}{
		{"", nil},
		{"00", []byte{0}},
		{"0aff", []byte{10, 255}},
		{"0123456789abcdef", []byte{1, 0x23, 0x45, 0x67, 0x89, 0xab, 0xcd, 0xef}},
		{strings.Repeat("5c", 65535), filled(65535, 0x5c)},
	} {
		k, e := Parse(c.s)
		if e != api.OK || !bytes.Equal(k, c.want) {
			t.Errorf("Parse of %d signs: %d bytes, %v", len(c.s), len(k), e)
		}
	}
}

func TestParseWrong(t *testing.T) {
	for _, c := range []struct {
		s    string
		want api.Errno
	}{
		{"0", api.ErrForm},
		{"000", api.ErrForm},
		{"0A", api.ErrForm},
		{"F0", api.ErrForm},
		{"g0", api.ErrForm},
		{"0g", api.ErrForm},
		{"-", api.ErrForm},
		{"-1", api.ErrForm},
		{"0x", api.ErrForm},
		{" 00", api.ErrForm},
		{"00 ", api.ErrForm},
		{"0 00", api.ErrForm},
		{"00\n0", api.ErrForm},
		{"\x00\x00", api.ErrForm},
		{"\xff\xff", api.ErrForm},
		{"é", api.ErrForm},
		{"aé0", api.ErrForm},
		{strings.Repeat("0", 131069), api.ErrForm},
		{strings.Repeat("0", 131069) + "g", api.ErrForm},
		{"g" + strings.Repeat("0", 131069), api.ErrForm},
		{strings.Repeat("0", 131071), api.ErrForm},
		{strings.Repeat("z", 131071), api.ErrForm},
		{strings.Repeat("0", 131072), api.ErrBig},
		{strings.Repeat("z", 131072), api.ErrBig},
		{strings.Repeat("\xff", 131072), api.ErrBig},
		{strings.Repeat("0", 131073), api.ErrBig},
		{strings.Repeat("0", 1000000), api.ErrBig},
	} {
		if k, e := Parse(c.s); e != c.want || len(k) != 0 {
			t.Errorf("Parse of %d signs, %.8q ..: %d bytes, %v, not %v", len(c.s), c.s, len(k), e, c.want)
		}
	}
}

// Every text of two signs: just the 256 that are bytes' texts are parsed.
func TestParseTakesTextsAlone(t *testing.T) {
	fine := 0
	for a := range 256 {
		for b := range 256 {
			s := string([]byte{byte(a), byte(b)})
			k, e := Parse(s)
			switch {
			case e == api.OK && len(k) == 1 && Text(k) == s:
				fine++
			case e != api.ErrForm || len(k) != 0:
				t.Fatalf("Parse(%q): %v, %v", s, k, e)
			}
		}
	}
	if fine != 256 {
		t.Error(fine, "texts are parsed")
	}
}

// P1.4

func TestPrefixIsWithinItAndItsNext(t *testing.T) {
	ks := append(fewKeys(), filled(65534, 255), filled(65535, 255), filled(65535, 0))
	for _, p := range ks {
		next, ok := Next(p)
		for _, k := range ks {
			if Begins(k, p) != Within(k, p, next, !ok) {
				t.Fatalf("prefix of %d bytes, next %v, %v: wrong at a key of %d bytes", len(p), next, ok, len(k))
			}
		}
	}
}

// P1.5

func TestTextIsParsed(t *testing.T) {
	for _, k := range append(fewKeys(), nil, filled(65534, 1), filled(65535, 254)) {
		got, e := Parse(Text(k))
		if e != api.OK || !bytes.Equal(got, k) {
			t.Fatalf("a key of %d bytes: %d bytes, %v", len(k), len(got), e)
		}
	}
	if k, e := Parse(Text(filled(65536, 1))); e != api.ErrBig || len(k) != 0 {
		t.Error("what is no key:", len(k), e)
	}
}

// The rules

// R4: nothing is written to what was handed in, and no answer lies in it, not even in its spare room.
func TestArgumentsStay(t *testing.T) {
	room := []byte{7, 254, 255, 255, 99}
	was := slices.Clone(room)
	next, _ := Next(room[:4])
	if !bytes.Equal(next, []byte{7, 255}) {
		t.Fatal(next)
	}
	for i := range next {
		next[i] = 0
	}
	_ = append(next, 1, 2, 3)
	if !bytes.Equal(room, was) {
		t.Error("Next shares memory:", room)
	}
	l := pairs([]byte{2}, []byte{1})
	Sorted(l)
	if l[0].Key[0] != 2 || l[1].Key[0] != 1 {
		t.Error("Sorted moves pairs:", l)
	}
}

// R3, R4: answers are new ones each time.
func TestAnswersAreNew(t *testing.T) {
	a, _ := Parse("0102")
	b, _ := Parse("0102")
	a[0] = 9
	if b[0] != 1 {
		t.Error("two answers of Parse share memory")
	}
	c, _ := Next([]byte{1})
	d, _ := Next([]byte{1})
	c[0] = 9
	if d[0] != 2 {
		t.Error("two answers of Next share memory")
	}
}

// R5: nil is as empty.
func TestNilIsAsEmpty(t *testing.T) {
	none, one := []byte{}, []byte{1}
	if Cmp(nil, none) != 0 || !Same(nil, none) || !Same(none, nil) || Common(nil, one) != 0 {
		t.Error("Cmp, Same or Common")
	}
	if !Begins(one, nil) || !Begins(one, none) || !Begins(nil, none) || Begins(nil, one) {
		t.Error("Begins")
	}
	if !Within(one, nil, nil, true) || Within(one, nil, nil, false) != Within(one, none, none, false) {
		t.Error("Within")
	}
	if Sorted(nil) != Sorted([]api.Pair{}) || Text(nil) != Text(none) || May(nil) != May(none) {
		t.Error("Sorted, Text or May")
	}
}
