package bounds

import (
	"bytes"
	"fmt"
	"math"
	"slices"
	"testing"

	"spunyarn/api"
	"spunyarn/field"
	"spunyarn/tuple"
)

type (
	schema = []field.Field
	values = []field.Value
)

func rises(kind int) field.Field { return field.Field{Kind: kind} }

func down(kind int) field.Field { return field.Field{Kind: kind, Falls: true} }

func u(n uint64) field.Value { return field.Value{U: n} }

func i(n int64) field.Value { return field.Value{I: n} }

func yes(t bool) field.Value { return field.Value{T: t} }

func text(s string) field.Value { return field.Value{B: []byte(s)} }

func filled(n int, b byte) []byte { return bytes.Repeat([]byte{b}, n) }

// between and from are spans that are not open, and that are.
func between(a, b string) Span { return Span{From: []byte(a), To: []byte(b)} }

func from(a string) Span { return Span{From: []byte(a), Open: true} }

// is tells whether a span has just these parts.
func is(x Span, from, to []byte, open bool) bool {
	return bytes.Equal(x.From, from) && bytes.Equal(x.To, to) && x.Open == open
}

// nothing tells whether all parts of a span are zero.
func nothing(x Span) bool { return is(x, nil, nil, false) }

// told is a span's text for what a test tells, with the beginnings of its keys alone.
func told(x Span) string {
	return fmt.Sprintf("from %.20q to %.20q, open: %v", x.From, x.To, x.Open)
}

// keysOf are all keys of at most so many bytes, out of some.
func keysOf(longest int, some ...byte) [][]byte {
	all := [][]byte{nil}
	last := all
	for range longest {
		var longer [][]byte
		for _, k := range last {
			for _, b := range some {
				longer = append(longer, append(slices.Clone(k), b))
			}
		}
		all = append(all, longer...)
		last = longer
	}
	return all
}

// spansOf are all spans with such first and last keys, open ones too. Those have a To as well, which does not count.
func spansOf(ks [][]byte) []Span {
	var all []Span
	for _, a := range ks {
		for _, b := range ks {
			all = append(all, Span{From: a, To: b}, Span{From: a, To: b, Open: true})
		}
	}
	return all
}

// has tells by the words of the chapter whether a span has a key.
func has(x Span, k []byte) bool {
	if bytes.Compare(k, x.From) < 0 {
		return false
	}
	return x.Open || bytes.Compare(k, x.To) < 0
}

// P7.1

func TestWhole(t *testing.T) {
	x := Whole()
	if !is(x, nil, nil, true) {
		t.Fatal(x)
	}
	for _, k := range append(keysOf(2, 0, 1, 254, 255), filled(65535, 0), filled(65535, 255)) {
		if !Has(x, k) {
			t.Errorf("a key of %d bytes is not in the whole", len(k))
		}
	}
	if Empty(x) {
		t.Error("the whole is empty")
	}
}

func TestPrefix(t *testing.T) {
	for _, c := range []struct {
		prefix, to []byte
		open       bool
	}{
		{nil, nil, true},
		{[]byte{}, nil, true},
		{[]byte{0}, []byte{1}, false},
		{[]byte{0, 0}, []byte{0, 1}, false},
		{[]byte{7}, []byte{8}, false},
		{[]byte{1, 2, 3}, []byte{1, 2, 4}, false},
		{[]byte{254}, []byte{255}, false},
		{[]byte{255}, nil, true},
		{[]byte{255, 255}, nil, true},
		{[]byte{255, 255, 255}, nil, true},
		{[]byte{1, 255}, []byte{2}, false},
		{[]byte{1, 2, 255, 255}, []byte{1, 3}, false},
		{[]byte{254, 255}, []byte{255}, false},
		{[]byte{255, 0}, []byte{255, 1}, false},
		{[]byte{255, 254, 255}, []byte{255, 255}, false},
		{[]byte{1, 255, 3}, []byte{1, 255, 4}, false},
		{filled(65535, 0), append(filled(65534, 0), 1), false},
		{filled(65535, 255), nil, true},
		{append([]byte{3}, filled(65534, 255)...), []byte{4}, false},
		{append(filled(65534, 255), 6), append(filled(65534, 255), 7), false},
	} {
		if x := Prefix(c.prefix); !is(x, c.prefix, c.to, c.open) {
			t.Errorf("Prefix of %d bytes: from %d bytes to %d bytes, %v", len(c.prefix), len(x.From), len(x.To), x.Open)
		}
	}
}

// The span of a prefix has what begins with it, and nothing else.
func TestPrefixHasWhatBeginsWithIt(t *testing.T) {
	ks := keysOf(3, 0, 1, 254, 255)
	for _, p := range ks {
		x := Prefix(p)
		if Empty(x) {
			t.Fatalf("Prefix(%v) is empty", p)
		}
		for _, k := range ks {
			if Has(x, k) != bytes.HasPrefix(k, p) {
				t.Fatalf("Prefix(%v) is %v: wrong at %v", p, x, k)
			}
		}
	}
}

func TestHas(t *testing.T) {
	ks := keysOf(2, 0, 1, 128, 255)
	for _, x := range spansOf(ks) {
		for _, k := range ks {
			if Has(x, k) != has(x, k) {
				t.Fatalf("Has(%v, %v): %v", x, k, Has(x, k))
			}
		}
	}
}

func TestHasEdges(t *testing.T) {
	for _, c := range []struct {
		x    Span
		k    string
		want bool
	}{
		{between("b", "d"), "a", false},
		{between("b", "d"), "azz", false},
		{between("b", "d"), "b", true},
		{between("b", "d"), "b\x00", true},
		{between("b", "d"), "c", true},
		{between("b", "d"), "czzz", true},
		{between("b", "d"), "d", false},
		{between("b", "d"), "d\x00", false},
		{between("b", "d"), "e", false},
		{between("b", "d"), "", false},
		{between("", "d"), "", true},
		{between("", ""), "", false},
		{between("b", "b"), "b", false},
		{between("d", "b"), "c", false},
		{between("d", "b"), "a", false},
		{between("b", "bb"), "b", true},
		{between("b", "bb"), "ba", true},
		{between("b", "bb"), "bb", false},
		{between("bb", "b"), "b", false},
		{between("bb", "b"), "bb", false},
		{from("b"), "", false},
		{from("b"), "a\xff", false},
		{from("b"), "b", true},
		{from("b"), "\xff\xff\xff", true},
		{from(""), "", true},
		{Span{From: []byte("b"), To: []byte("c"), Open: true}, "d", true},
		{Span{From: []byte("b"), To: []byte("a"), Open: true}, "b", true},
		{between("\x7f", "\x81"), "\x80", true},
	} {
		if got := Has(c.x, []byte(c.k)); got != c.want {
			t.Errorf("Has(%s, %q): %v", told(c.x), c.k, got)
		}
	}
	long := filled(65535, 9)
	x := Span{From: long[:65534], To: long}
	if !Has(x, long[:65534]) || Has(x, long[:65533]) || Has(x, long) || !Has(x, append(filled(65534, 9), 8)) {
		t.Error("keys of the greatest length")
	}
}

func TestEmpty(t *testing.T) {
	for _, c := range []struct {
		x    Span
		want bool
	}{
		{Span{}, true},
		{between("", "\x00"), false},
		{between("a", "a"), true},
		{between("a", "b"), false},
		{between("b", "a"), true},
		{between("a", "a\x00"), false},
		{between("a\x00", "a"), true},
		{between("a", ""), true},
		{between("\x7f", "\x80"), false},
		{from(""), false},
		{from("\xff\xff"), false},
		{Span{From: []byte("b"), To: []byte("b"), Open: true}, false},
		{Span{From: []byte("b"), To: []byte("a"), Open: true}, false},
		{Span{From: filled(65534, 5), To: filled(65535, 5)}, false},
		{Span{From: filled(65535, 5), To: filled(65535, 5)}, true},
		{Span{From: filled(65535, 5), To: filled(65534, 5)}, true},
	} {
		if got := Empty(c.x); got != c.want {
			t.Errorf("Empty(%s): %v", told(c.x), got)
		}
	}
	for _, x := range spansOf(keysOf(2, 0, 1, 128, 255)) {
		if Empty(x) == has(x, x.From) {
			t.Fatalf("Empty(%v): %v", x, Empty(x))
		}
	}
}

// An empty span has none of the keys.
func TestEmptySpansHaveNothing(t *testing.T) {
	ks := keysOf(2, 0, 1, 255)
	for _, x := range spansOf(ks) {
		for _, k := range ks {
			if Empty(x) && Has(x, k) {
				t.Fatalf("%v is empty, and has %v", x, k)
			}
		}
	}
}

func TestMeet(t *testing.T) {
	for _, c := range []struct {
		what    string
		a, b, x Span
	}{
		{"over each other", between("b", "e"), between("c", "g"), between("c", "e")},
		{"touching", between("b", "d"), between("d", "f"), between("d", "d")},
		{"apart", between("b", "c"), between("e", "g"), between("e", "c")},
		{"within", between("b", "g"), between("c", "d"), between("c", "d")},
		{"within, from one key on", between("b", "g"), between("b", "d"), between("b", "d")},
		{"within, to one key", between("b", "g"), between("d", "g"), between("d", "g")},
		{"the same", between("b", "g"), between("b", "g"), between("b", "g")},
		{"an open one", from("c"), between("b", "g"), between("c", "g")},
		{"an open one that begins ahead", from("a"), between("b", "g"), between("b", "g")},
		{"an open one that begins behind", from("h"), between("b", "g"), between("h", "g")},
		{"two open ones", from("b"), from("c"), from("c")},
		{"the same open ones", from("b"), from("b"), from("b")},
		{"the whole with itself", Whole(), Whole(), Whole()},
		{"the whole with another one", Whole(), between("b", "g"), between("b", "g")},
		{"the whole with an open one", Whole(), from("b"), from("b")},
		{"a first key that is a beginning", between("b", "g"), between("ba", "g"), between("ba", "g")},
		{"a last key that is a beginning", between("b", "g"), between("b", "ga"), between("b", "g")},
		{"an empty one", between("d", "d"), between("b", "g"), between("d", "d")},
		{"one that goes back", between("f", "c"), between("b", "g"), between("f", "c")},
		{"from nothing to nothing", Span{}, between("b", "g"), between("b", "")},
		{"nothing, and the whole", Span{}, Whole(), Span{}},
		{"bytes of 128 and above", between("\x7f", "\xff"), between("\x80", "\xfe"), between("\x80", "\xfe")},
	} {
		for _, x := range []Span{Meet(c.a, c.b), Meet(c.b, c.a)} {
			if !is(x, c.x.From, c.x.To, c.x.Open) {
				t.Errorf("%s: %s and %s: %s, not %s", c.what, told(c.a), told(c.b), told(x), told(c.x))
			}
		}
	}
}

// What stands in an open span as its last key does not count, and does not come out.
func TestMeetOfOpenSpansWithLastKeys(t *testing.T) {
	a := Span{From: []byte("b"), To: []byte("c"), Open: true}
	b := Span{From: []byte("c"), To: []byte("a"), Open: true}
	for _, x := range []Span{Meet(a, b), Meet(b, a)} {
		if !is(x, []byte("c"), nil, true) {
			t.Errorf("both open: %s", told(x))
		}
	}
	for _, x := range []Span{Meet(a, between("a", "z")), Meet(between("a", "z"), a)} {
		if !is(x, []byte("b"), []byte("z"), false) {
			t.Errorf("one of them: %s", told(x))
		}
	}
}

// Each two spans: from the greater one to the lesser one, by another way.
func TestMeetOfAll(t *testing.T) {
	all := spansOf(keysOf(2, 0, 255))
	for _, a := range all {
		for _, b := range all {
			first := [][]byte{a.From, b.From}
			var last [][]byte
			for _, x := range []Span{a, b} {
				if !x.Open {
					last = append(last, x.To)
				}
			}
			var to []byte
			if len(last) > 0 {
				to = slices.MinFunc(last, bytes.Compare)
			}
			x := Meet(a, b)
			if !is(x, slices.MaxFunc(first, bytes.Compare), to, len(last) == 0) {
				t.Fatalf("Meet(%v, %v): %v", a, b, x)
			}
		}
	}
}

func TestSame(t *testing.T) {
	for _, c := range []struct {
		a, b Span
		want bool
	}{
		{between("b", "d"), between("b", "d"), true},
		{between("b", "d"), between("b", "e"), false},
		{between("b", "d"), between("c", "d"), false},
		{between("b", "d"), between("b", "d\x00"), false},
		{between("b", "d"), between("b\x00", "d"), false},
		{from("b"), from("b"), true},
		{from("b"), from("c"), false},
		{from("b"), between("b", ""), false},
		{from("b"), between("b", "d"), false},
		{from(""), Whole(), true},
		{Whole(), Span{}, false},
		{Span{}, between("", ""), true},
		{Span{From: []byte("b"), To: []byte("c"), Open: true}, from("b"), true},
		{Span{From: []byte("b"), To: []byte("c"), Open: true}, Span{From: []byte("b"), To: []byte("d"), Open: true}, true},
		{Span{From: []byte("b"), To: []byte("c"), Open: true}, between("b", "c"), false},
		{Span{From: []byte("b"), To: []byte("c"), Open: true}, Span{From: []byte("a"), To: []byte("c"), Open: true}, false},
		{between("b", "b"), between("c", "c"), false},
		{between("c", "b"), between("c", "a"), false},
		{Span{From: filled(65535, 1), To: filled(65535, 2)}, Span{From: filled(65535, 1), To: filled(65535, 2)}, true},
		{Span{From: filled(65535, 1), To: filled(65535, 2)}, Span{From: filled(65535, 1), To: filled(65534, 2)}, false},
	} {
		if Same(c.a, c.b) != c.want || Same(c.b, c.a) != c.want {
			t.Errorf("Same(%s, %s): %v, %v", told(c.a), told(c.b), Same(c.a, c.b), Same(c.b, c.a))
		}
	}
}

func TestSameOfAll(t *testing.T) {
	all := spansOf(keysOf(2, 0, 255))
	for _, a := range all {
		for _, b := range all {
			want := bytes.Equal(a.From, b.From) && (a.Open && b.Open || !a.Open && !b.Open && bytes.Equal(a.To, b.To))
			if Same(a, b) != want {
				t.Fatalf("Same(%v, %v): %v", a, b, !want)
			}
		}
	}
}

// P7.2

func TestOf(t *testing.T) {
	many := schema{rises(field.Text), down(field.U8), rises(field.I8), rises(field.Bool)}
	for _, c := range []struct {
		s    schema
		t    values
		from string
		to   string
		open bool
	}{
		{nil, nil, "", "", true},
		{many, nil, "", "", true},
		{many, values{}, "", "", true},
		{many, values{text("ab")}, "ab\x00\x00", "ab\x00\x01", false},
		{many, values{text("ab"), u(5)}, "ab\x00\x00\xfa", "ab\x00\x00\xfb", false},
		{many, values{text("ab"), u(0)}, "ab\x00\x00\xff", "ab\x00\x01", false},
		{many, values{text("ab"), u(5), i(-1)}, "ab\x00\x00\xfa\x7f", "ab\x00\x00\xfa\x80", false},
		{many, values{text("ab"), u(5), i(127)}, "ab\x00\x00\xfa\xff", "ab\x00\x00\xfb", false},
		{many, values{text("ab"), u(0), i(127)}, "ab\x00\x00\xff\xff", "ab\x00\x01", false},
		{many, values{text("ab"), u(5), i(-1), yes(true)}, "ab\x00\x00\xfa\x7f\x01", "ab\x00\x00\xfa\x7f\x02", false},
		{schema{rises(field.U8)}, values{u(0)}, "\x00", "\x01", false},
		{schema{rises(field.U8)}, values{u(254)}, "\xfe", "\xff", false},
		{schema{rises(field.U8)}, values{u(255)}, "\xff", "", true},
		{schema{down(field.U8)}, values{u(0)}, "\xff", "", true},
		{schema{down(field.U8)}, values{u(255)}, "\x00", "\x01", false},
		{schema{rises(field.U16)}, values{u(511)}, "\x01\xff", "\x02", false},
		{schema{down(field.U16)}, values{u(256)}, "\xfe\xff", "\xff", false},
		{schema{rises(field.U32)}, values{u(1)}, "\x00\x00\x00\x01", "\x00\x00\x00\x02", false},
		{schema{rises(field.U64)}, values{u(math.MaxUint64)}, "\xff\xff\xff\xff\xff\xff\xff\xff", "", true},
		{schema{down(field.I16)}, values{i(math.MinInt16)}, "\xff\xff", "", true},
		{schema{rises(field.I32)}, values{i(math.MaxInt32)}, "\xff\xff\xff\xff", "", true},
		{schema{down(field.I64)}, values{i(-1)}, "\x80\x00\x00\x00\x00\x00\x00\x00", "\x80\x00\x00\x00\x00\x00\x00\x01", false},
		{schema{rises(field.Bool)}, values{yes(false)}, "\x00", "\x01", false},
		{schema{down(field.Bool)}, values{yes(false)}, "\xff", "", true},
		{schema{down(field.Bool)}, values{yes(true)}, "\xfe", "\xff", false},
		{schema{rises(field.Text)}, values{text("")}, "\x00\x00", "\x00\x01", false},
		{schema{rises(field.Text)}, values{text("\x00")}, "\x00\xff\x00\x00", "\x00\xff\x00\x01", false},
		{schema{down(field.Text)}, values{text("")}, "\xff\xff", "", true},
		{schema{down(field.Text)}, values{text("\x01")}, "\xfe\xff\xff", "\xff", false},
		{schema{down(field.Text), rises(field.U8)}, values{text(""), u(255)}, "\xff\xff\xff", "", true},
	} {
		if x, e := Of(c.s, c.t); !is(x, []byte(c.from), []byte(c.to), c.open) || e != api.OK {
			t.Errorf("Of(%v, %v): %s, %v", c.s, c.t, told(x), e)
		}
	}
}

// Of each kind, rising and falling, of none, some and all of the values: the span of their bytes.
func TestOfIsThePrefixOfTheBytes(t *testing.T) {
	for _, s := range schemas() {
		for _, v := range tuplesOf(s) {
			for n := range len(s) + 1 {
				b, e := tuple.Put(s[:n], v[:n])
				if e != api.OK {
					t.Fatalf("Put(%v, %v): %v", s[:n], v[:n], e)
				}
				want := Prefix(b)
				if x, e := Of(s, v[:n]); !is(x, want.From, want.To, want.Open) || e != api.OK {
					t.Fatalf("Of(%v, %v): %v, %v, not %v", s, v[:n], x, e, want)
				}
			}
		}
	}
}

// wrong are schemas with first values that have no span, each with what is told of them.
func wrong() []struct {
	what string
	s    schema
	t    values
	e    api.Errno
} {
	u8, bad := rises(field.U8), rises(11)
	most, longest := u(256), field.Value{B: filled(65534, 'a')}
	return []struct {
		what string
		s    schema
		t    values
		e    api.Errno
	}{
		{"a value of no field", nil, values{u(1)}, api.ErrMany},
		{"a value more", schema{u8}, values{u(1), u(2)}, api.ErrMany},
		{"a value more, and a kind that is none", schema{bad}, values{u(1), u(2)}, api.ErrMany},
		{"a value more, and one that is none of its width", schema{u8}, values{most, u(2)}, api.ErrMany},
		{"a value more, and too many bytes", schema{rises(field.Text)}, values{longest, u(2)}, api.ErrMany},
		{"300 values of 299 fields that are none", slices.Repeat(schema{bad}, 299), make(values, 300), api.ErrMany},
		{"256 first fields", slices.Repeat(schema{u8}, 300), make(values, 256), api.ErrMany},
		{"256 fields", slices.Repeat(schema{u8}, 256), make(values, 256), api.ErrMany},
		{"256 first fields that are none", slices.Repeat(schema{bad}, 300), make(values, 256), api.ErrMany},
		{"256 first fields, values of no width", slices.Repeat(schema{u8}, 300), slices.Repeat(values{most}, 256), api.ErrMany},
		{"a kind that is none", schema{bad}, values{u(1)}, api.ErrKind},
		{"the kind 0", schema{rises(0)}, values{u(1)}, api.ErrKind},
		{"a kind below 0, falling", schema{down(-1)}, values{u(1)}, api.ErrKind},
		{"the greatest kind", schema{rises(math.MaxInt)}, values{u(1)}, api.ErrKind},
		{"a kind that is none, behind a field", schema{u8, bad, u8}, values{u(1), u(2)}, api.ErrKind},
		{"a kind that is none, behind a value of no width", schema{u8, bad, u8}, values{most, u(2)}, api.ErrKind},
		{"a kind that is none, behind too many bytes", schema{rises(field.Text), bad}, values{longest, u(2)}, api.ErrKind},
		{"the last of 255 first fields is none", append(slices.Repeat(schema{u8}, 254), bad, u8), make(values, 255), api.ErrKind},
		{"a value of no width", schema{u8}, values{most}, api.ErrBig},
		{"a value of no width, falling", schema{down(field.I16), u8}, values{i(32768)}, api.ErrBig},
		{"a value of no width below 0", schema{rises(field.I8)}, values{i(-129)}, api.ErrBig},
		{"a later value of no width", schema{u8, rises(field.U32), u8}, values{u(255), u(1 << 32)}, api.ErrBig},
		{"a value of no width, and a kind behind that is none", schema{u8, bad}, values{most}, api.ErrBig},
		{"65536 bytes", schema{rises(field.Text)}, values{longest}, api.ErrBig},
		{"65536 bytes, falling", schema{down(field.Text), u8}, values{longest}, api.ErrBig},
		{"65536 bytes of two values", schema{u8, rises(field.Text)}, values{u(1), {B: filled(65533, 'a')}}, api.ErrBig},
		{"200002 bytes", schema{rises(field.Text)}, values{{B: filled(200000, 'a')}}, api.ErrBig},
	}
}

func TestOfWrong(t *testing.T) {
	for _, c := range wrong() {
		if x, e := Of(c.s, c.t); !nothing(x) || e != c.e {
			t.Errorf("%s: %s, %v, not %v", c.what, told(x), e, c.e)
		}
	}
}

// Fields behind the first ones do not count, whatever they are, and however many.
func TestOfDoesNotLookBehind(t *testing.T) {
	for _, behind := range []schema{{rises(0)}, {down(-5), rises(11)}, {rises(math.MinInt)}, slices.Repeat(schema{rises(field.U8)}, 300), slices.Repeat(schema{rises(99)}, 300)} {
		s := append(schema{rises(field.U8), rises(field.Bool)}, behind...)
		for _, c := range []struct {
			t values
			x Span
		}{
			{nil, Whole()},
			{values{u(5)}, between("\x05", "\x06")},
			{values{u(5), yes(true)}, between("\x05\x01", "\x05\x02")},
			{values{u(255)}, from("\xff")},
		} {
			if x, e := Of(s, c.t); !is(x, c.x.From, c.x.To, c.x.Open) || e != api.OK {
				t.Errorf("Of of %d fields, %v: %s, %v", len(s), c.t, told(x), e)
			}
			if x, e := Between(s, c.t, c.t); !is(x, c.x.From, c.x.To, c.x.Open) || e != api.OK {
				t.Errorf("Between of %d fields, %v: %s, %v", len(s), c.t, told(x), e)
			}
		}
	}
}

// As many fields and bytes as may be.
func TestOfTheMost(t *testing.T) {
	s, v := slices.Repeat(schema{rises(field.U8)}, 300), slices.Repeat(values{u(7)}, 255)
	if x, e := Of(s, v); !is(x, filled(255, 7), append(filled(254, 7), 8), false) || e != api.OK {
		t.Errorf("255 values: from %d bytes, %v", len(x.From), e)
	}
	if x, e := Of(s[:255], v); !is(x, filled(255, 7), append(filled(254, 7), 8), false) || e != api.OK {
		t.Errorf("255 values of 255 fields: from %d bytes, %v", len(x.From), e)
	}
	long := field.Value{B: filled(65533, 'a')}
	b := append(filled(65533, 'a'), 0, 0)
	if x, e := Of(schema{rises(field.Text), rises(field.U8)}, values{long}); !is(x, b, append(filled(65533, 'a'), 0, 1), false) || e != api.OK {
		t.Errorf("65535 bytes: from %d bytes to %d bytes, %v", len(x.From), len(x.To), e)
	}
	if x, e := Of(schema{down(field.Text)}, values{long}); len(x.From) != 65535 || !is(x, x.From, append(filled(65532, 158), 159), false) || e != api.OK {
		t.Errorf("65535 bytes that fall: from %d bytes to %d bytes, %v", len(x.From), len(x.To), e)
	}
}

func TestBetween(t *testing.T) {
	two := schema{rises(field.U8), rises(field.U8)}
	for _, c := range []struct {
		s    schema
		a, b values
		x    Span
	}{
		{nil, nil, nil, Whole()},
		{two, nil, nil, Whole()},
		{two, values{u(3)}, values{u(5)}, between("\x03", "\x06")},
		{two, values{u(3)}, values{u(3)}, between("\x03", "\x04")},
		{two, values{u(3)}, values{u(255)}, from("\x03")},
		{two, values{u(3)}, nil, from("\x03")},
		{two, values{u(255)}, nil, from("\xff")},
		{two, values{u(255)}, values{u(255)}, from("\xff")},
		{two, values{u(255), u(255)}, values{u(255)}, from("\xff\xff")},
		{two, values{u(255), u(255)}, values{u(255), u(255)}, from("\xff\xff")},
		{two, nil, values{u(5)}, between("", "\x06")},
		{two, nil, values{u(0)}, between("", "\x01")},
		{two, values{u(3), u(7)}, values{u(3)}, between("\x03\x07", "\x04")},
		{two, values{u(3)}, values{u(3), u(7)}, between("\x03", "\x03\x08")},
		{two, values{u(3)}, values{u(3), u(0)}, between("\x03", "\x03\x01")},
		{two, values{u(3), u(7)}, values{u(3), u(7)}, between("\x03\x07", "\x03\x08")},
		{two, values{u(3), u(255)}, values{u(3)}, between("\x03\xff", "\x04")},
		{two, values{u(3), u(255)}, values{u(3), u(255)}, between("\x03\xff", "\x04")},
		{two, values{u(3), u(255)}, values{u(4), u(0)}, between("\x03\xff", "\x04\x01")},
		{schema{down(field.U8)}, values{u(5)}, values{u(3)}, between("\xfa", "\xfd")},
		{schema{down(field.U8)}, values{u(5)}, values{u(0)}, from("\xfa")},
		{schema{rises(field.Text)}, values{text("a")}, values{text("a\x00")}, between("a\x00\x00", "a\x00\xff\x00\x01")},
		{schema{down(field.Text)}, values{text("ab")}, values{text("a")}, between("\x9e\x9d\xff\xff", "\x9f")},
		{schema{rises(field.I8)}, values{i(-1)}, values{i(0)}, between("\x7f", "\x81")},
		{schema{rises(field.Bool)}, values{yes(false)}, values{yes(true)}, between("\x00", "\x02")},
	} {
		if x, e := Between(c.s, c.a, c.b); !is(x, c.x.From, c.x.To, c.x.Open) || e != api.OK {
			t.Errorf("Between(%v, %v, %v): %s, %v, not %s", c.s, c.a, c.b, told(x), e, told(c.x))
		}
	}
}

// Spans that would be empty, with a last key that is just the first one, and with one that stands ahead of it.
func TestBetweenThatDoesNotRise(t *testing.T) {
	two := schema{rises(field.U8), rises(field.U8)}
	for _, c := range []struct {
		s    schema
		a, b values
	}{
		{two, values{u(3)}, values{u(2)}},
		{two, values{u(9)}, values{u(2)}},
		{two, values{u(255)}, values{u(254)}},
		{two, values{u(3)}, values{u(2), u(255)}},
		{two, values{u(3), u(0)}, values{u(2)}},
		{two, values{u(3), u(8)}, values{u(3), u(7)}},
		{two, values{u(3), u(255)}, values{u(3), u(254)}},
		{two, values{u(3), u(8)}, values{u(3), u(0)}},
		{schema{down(field.U8)}, values{u(3)}, values{u(4)}},
		{schema{down(field.U8)}, values{u(0)}, values{u(1)}},
		{schema{rises(field.Text)}, values{text("a\x00")}, values{text("a")}},
		{schema{down(field.Text)}, values{text("a")}, values{text("ab")}},
		{schema{rises(field.I8)}, values{i(0)}, values{i(-1)}},
		{schema{rises(field.Bool)}, values{yes(true)}, values{yes(false)}},
	} {
		if x, e := Between(c.s, c.a, c.b); !nothing(x) || e != api.ErrOrder {
			t.Errorf("Between(%v, %v, %v): %s, %v", c.s, c.a, c.b, told(x), e)
		}
	}
}

// Of all first values of some schemas, each with each.
func TestBetweenOfAll(t *testing.T) {
	for _, s := range []schema{{rises(field.U8), down(field.Bool)}, {down(field.I8), rises(field.Text)}, {down(field.Text), down(field.U8)}} {
		var all []values
		for n := range len(s) + 1 {
			all = append(all, tuplesOf(s[:n])...)
		}
		for _, a := range all {
			for _, b := range all {
				first, _ := Of(s, a)
				last, _ := Of(s, b)
				rise := last.Open || bytes.Compare(first.From, last.To) < 0
				x, e := Between(s, a, b)
				if rise && (!is(x, first.From, last.To, last.Open) || e != api.OK) || !rise && (!nothing(x) || e != api.ErrOrder) {
					t.Fatalf("Between(%v, %v, %v): %v, %v", s, a, b, x, e)
				}
			}
		}
	}
}

func TestBetweenWrong(t *testing.T) {
	for _, c := range wrong() {
		for _, pair := range [][2]values{{c.t, nil}, {nil, c.t}, {c.t, c.t}} {
			if x, e := Between(c.s, pair[0], pair[1]); !nothing(x) || e != c.e {
				t.Errorf("%s: %s, %v, not %v", c.what, told(x), e, c.e)
			}
		}
	}
}

// Where both are wrong, or one is and the span would be empty too: the first one's error, then the second one's.
func TestBetweenTellsTheFirstError(t *testing.T) {
	s := schema{rises(field.U8), rises(11), rises(field.U8)}
	big, none, many := values{u(256)}, values{u(1), u(2)}, make(values, 4)
	for _, c := range []struct {
		a, b values
		want api.Errno
	}{
		{big, none, api.ErrBig},
		{none, big, api.ErrKind},
		{big, many, api.ErrBig},
		{many, big, api.ErrMany},
		{none, many, api.ErrKind},
		{many, none, api.ErrMany},
		{values{u(9)}, big, api.ErrBig},
		{values{u(9)}, none, api.ErrKind},
		{values{u(9)}, many, api.ErrMany},
		{big, values{u(0)}, api.ErrBig},
		{none, values{u(0)}, api.ErrKind},
		{many, values{u(0)}, api.ErrMany},
		{values{u(9)}, values{u(0)}, api.ErrOrder},
	} {
		if x, e := Between(s, c.a, c.b); !nothing(x) || e != c.want {
			t.Errorf("Between(%v, %v): %s, %v, not %v", c.a, c.b, told(x), e, c.want)
		}
	}
}

// P7.3

func TestMeetHasWhatBothHave(t *testing.T) {
	all := spansOf(keysOf(2, 0, 255))
	ks := keysOf(3, 0, 254, 255)
	for _, a := range all {
		for _, b := range all {
			x := Meet(a, b)
			for _, k := range ks {
				if Has(x, k) != (has(a, k) && has(b, k)) {
					t.Fatalf("Meet(%v, %v) is %v: wrong at %v", a, b, x, k)
				}
			}
			if !Same(x, Meet(b, a)) || !Same(x, Meet(x, a)) || !Same(x, Meet(b, x)) {
				t.Fatalf("Meet(%v, %v) is %v: it hangs on how they meet", a, b, x)
			}
		}
	}
}

// P7.4

// rising are a few values of a kind that rise, its least and its greatest one among them, and texts of which one is the beginning of the other.
func rising(kind int) values {
	switch kind {
	case field.U8, field.U16, field.U32, field.U64:
		most := uint64(math.MaxUint64) >> (64 - 8<<(kind-field.U8))
		return values{u(0), u(1), u(most - 1), u(most)}
	case field.I8, field.I16, field.I32, field.I64:
		most := int64(math.MaxInt64) >> (64 - 8<<(kind-field.I8))
		return values{i(-most - 1), i(-1), i(0), i(most)}
	case field.Bool:
		return values{yes(false), yes(true)}
	}
	return values{text(""), text("\x00"), text("\x00\xff"), text("a"), text("a\x00"), text("ab"), text("\xff"), text("\xff\xff")}
}

// fields are all that may be.
func fields() schema {
	var all schema
	for kind := field.U8; kind <= field.Text; kind++ {
		all = append(all, rises(kind), down(kind))
	}
	return all
}

// schemas are those of each two fields, and some of more.
func schemas() []schema {
	var all []schema
	for _, a := range fields() {
		for _, b := range fields() {
			all = append(all, schema{a, b})
		}
	}
	return append(all,
		schema{down(field.Text), rises(field.Bool), rises(field.Text)},
		schema{rises(field.I8), down(field.Text), down(field.Bool)},
		schema{rises(field.Bool), down(field.Bool), rises(field.U32), down(field.I16)})
}

// tuplesOf are all tuples of such values.
func tuplesOf(s schema) []values {
	all := []values{nil}
	for _, f := range s {
		var longer []values
		for _, t := range all {
			for _, v := range rising(f.Kind) {
				longer = append(longer, append(slices.Clone(t), v))
			}
		}
		all = longer
	}
	return all
}

// alike tells whether the first values of two tuples are the same, part by part.
func alike(n int, a, b values) bool {
	return slices.EqualFunc(a[:n], b[:n], func(x, y field.Value) bool {
		return x.U == y.U && x.I == y.I && x.T == y.T && bytes.Equal(x.B, y.B)
	})
}

func TestSpansOfFirstValuesHaveTheirTuples(t *testing.T) {
	for _, s := range schemas() {
		tuples := tuplesOf(s)
		put := make([][]byte, len(tuples))
		for n, v := range tuples {
			var e api.Errno
			if put[n], e = tuple.Put(s, v); e != api.OK {
				t.Fatalf("Put(%v, %v): %v", s, v, e)
			}
		}
		for _, v := range tuples {
			for n := range len(s) + 1 {
				x, e := Of(s, v[:n])
				if e != api.OK {
					t.Fatalf("Of(%v, %v): %v", s, v[:n], e)
				}
				for m, w := range tuples {
					if Has(x, put[m]) != alike(n, v, w) {
						t.Fatalf("%v: the span of %v is %v: wrong at %v, which is %v", s, v[:n], x, w, put[m])
					}
				}
			}
		}
	}
}

// Between has a tuple's bytes, if neither its first values stand ahead of the one's, nor behind the other's.
func TestBetweenHasTheTuplesBetween(t *testing.T) {
	for _, s := range []schema{{rises(field.U8), down(field.Bool)}, {down(field.I8), rises(field.Text)}, {down(field.Text), down(field.U8)}} {
		tuples := tuplesOf(s)
		var all []values
		for n := range len(s) + 1 {
			all = append(all, tuplesOf(s[:n])...)
		}
		for _, a := range all {
			for _, b := range all {
				x, e := Between(s, a, b)
				for _, v := range tuples {
					put, _ := tuple.Put(s, v)
					want := tuple.Cmp(s, v, a) >= 0 && tuple.Cmp(s, v, b) <= 0
					if got := e == api.OK && Has(x, put); got != want {
						t.Fatalf("%v: from %v to %v is %v, %v: wrong at %v, which is %v", s, a, b, x, e, v, put)
					}
				}
			}
		}
	}
}

// The rules

// roomy are bytes with more room behind them, in which others stand.
func roomy(s string) []byte { return append([]byte(s), 61, 62, 63)[:len(s)] }

// R4: nothing is written to what was handed in, not even to its spare room, and no answer lies in it.
func TestArgumentsStay(t *testing.T) {
	p, k := roomy("b\xfe\xff"), roomy("c")
	a, b := Span{From: roomy("b"), To: roomy("g")}, Span{From: roomy("c"), To: roomy("e")}
	c, d := Span{From: roomy("d"), Open: true}, Span{From: roomy("a"), To: roomy("z"), Open: true}
	s := schema{rises(field.Text), rises(field.U8), rises(field.U16)}[:2]
	v := values{{B: roomy("ab")}, u(5), u(9)}[:2]
	handed := func() [][]byte {
		var all [][]byte
		for _, l := range [][]byte{p, k, a.From, a.To, b.From, b.To, c.From, d.From, d.To, v[0].B} {
			all = append(all, slices.Clone(l[:cap(l)]))
		}
		return all
	}
	was := handed()
	of, _ := Of(s, v)
	two, _ := Between(s, v, v[:1])
	answers := []Span{Prefix(p), Meet(a, b), Meet(b, a), Meet(a, c), Meet(c, a), Meet(c, d), Meet(a, a), Meet(c, c), of, two}
	Has(a, k)
	Empty(a)
	Same(a, b)
	for _, x := range answers {
		for _, l := range [][]byte{x.From, x.To} {
			l = l[:cap(l)]
			for n := range l {
				l[n] = 99
			}
		}
	}
	if !slices.EqualFunc(handed(), was, bytes.Equal) {
		t.Error("bytes that were handed in have changed:", handed())
	}
	if s[:3][2] != rises(field.U16) || v[1].U != 5 || v[:3][2].U != 9 {
		t.Error("a schema or values that were handed in have changed:", s, v)
	}
}

// R4: no two lists of an answer share memory, even where both come from one list.
func TestListsOfAnAnswerAreApart(t *testing.T) {
	one := []byte("bbbb")
	of, _ := Of(schema{rises(field.Text)}, values{text("b")})
	two, _ := Between(schema{rises(field.Text)}, values{text("b")}, values{text("b")})
	for n, x := range []Span{
		Meet(Span{From: one, To: one}, Span{From: one, To: one}),
		Meet(Span{From: one, To: one}, Whole()),
		Meet(Span{From: one[:2], To: one}, Span{From: one[:1], Open: true}),
		Prefix(one), of, two,
	} {
		to := slices.Clone(x.To)
		room := x.From[:cap(x.From)]
		for m := range room {
			room[m] = 99
		}
		if !bytes.Equal(x.To, to) {
			t.Errorf("answer %d: its lists share memory", n)
		}
	}
}

// R3, R4: answers are new ones each time, and the same ones; what was answered stays, whatever becomes of what was handed in.
func TestAnswersAreNew(t *testing.T) {
	for range 3 {
		p := []byte("b")
		a, b := between("b", "g"), between("c", "e")
		s, v := schema{rises(field.Text)}, values{text("ab")}
		prefix, met := Prefix(p), Meet(a, b)
		of, _ := Of(s, v)
		two, _ := Between(s, v, v)
		for _, l := range [][]byte{p, a.From, a.To, b.From, b.To, v[0].B} {
			clear(l)
		}
		clear(s)
		clear(v)
		for n, x := range []Span{prefix, met, of, two} {
			want := []Span{between("b", "c"), between("c", "e"), between("ab\x00\x00", "ab\x00\x01"), between("ab\x00\x00", "ab\x00\x01")}[n]
			if !is(x, want.From, want.To, want.Open) {
				t.Fatalf("answer %d: %s, not %s", n, told(x), told(want))
			}
			clear(x.From)
			clear(x.To)
		}
	}
}

// R5: nil and empty lists are the same.
func TestNilIsEmpty(t *testing.T) {
	for _, none := range [][]byte{nil, {}} {
		if !is(Prefix(none), nil, nil, true) {
			t.Error("Prefix")
		}
		if !Has(Whole(), none) || Has(between("a", "b"), none) || !Has(Span{From: none, To: []byte{0}}, none) || Has(Span{From: []byte{0}, To: none}, none) {
			t.Error("Has")
		}
		if !Empty(Span{From: none, To: none}) || Empty(Span{From: none, To: none, Open: true}) || !Empty(Span{To: none}) || !Empty(Span{From: none}) {
			t.Error("Empty")
		}
		if !Same(Span{From: none, To: none}, Span{}) || !Same(Span{From: none, To: none, Open: true}, Whole()) {
			t.Error("Same")
		}
		if !is(Meet(Span{From: none, To: none, Open: true}, between("a", "b")), []byte("a"), []byte("b"), false) {
			t.Error("Meet")
		}
		x, e := Of(schema{rises(field.Text)}, values{{B: none}})
		if !is(x, []byte{0, 0}, []byte{0, 1}, false) || e != api.OK {
			t.Error("Of:", x, e)
		}
	}
	for _, s := range []schema{nil, {}} {
		for _, v := range []values{nil, {}} {
			if x, e := Of(s, v); !is(x, nil, nil, true) || e != api.OK {
				t.Error("Of:", x, e)
			}
			if x, e := Between(s, v, v); !is(x, nil, nil, true) || e != api.OK {
				t.Error("Between:", x, e)
			}
		}
		if x, e := Of(s, values{u(1)}); !nothing(x) || e != api.ErrMany {
			t.Error("Of:", x, e)
		}
	}
}

// R1: what is longer than a key may be is answered like other bytes.
func TestBytesThatAreNoKeys(t *testing.T) {
	long := filled(70000, 255)
	if x := Prefix(long); !is(x, long, nil, true) || !Has(x, long) || Has(x, long[1:]) {
		t.Error("Prefix")
	}
	x := Span{From: long[:65536], To: long}
	if !Has(x, long[:65537]) || Has(x, long) || Empty(x) || !Same(x, Meet(x, Whole())) || !Same(x, x) {
		t.Error("a span of them")
	}
}
