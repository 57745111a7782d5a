package tuple

import (
	"bytes"
	"math"
	"math/big"
	"regexp"
	"slices"
	"strings"
	"testing"

	"spunyarn/api"
	"spunyarn/field"
)

type (
	schema = []field.Field
	values = []field.Value
)

// kinds are all that there are, each with its name and how many bytes a number of it has, written out.
var kinds = []struct {
	kind  int
	name  string
	width int
}{
	{1, "u8", 1},
	{2, "u16", 2},
	{3, "u32", 4},
	{4, "u64", 8},
	{5, "i8", 1},
	{6, "i16", 2},
	{7, "i32", 4},
	{8, "i64", 8},
	{9, "bool", 0},
	{10, "text", 0},
}

// noKinds are numbers that are none: near to the kinds, of the same low bits, of the other sign, and very great ones.
var noKinds = []int{0, 11, 12, 15, 16, 17, 100, 257, 266, -1, -2, -10, 1<<32 + 1, math.MaxInt, math.MinInt, math.MinInt + 1}

func rises(kind int) field.Field { return field.Field{Kind: kind} }

func down(kind int) field.Field { return field.Field{Kind: kind, Falls: true} }

// fields are all that may be.
func fields() schema {
	var all schema
	for _, k := range kinds {
		all = append(all, rises(k.kind), down(k.kind))
	}
	return all
}

// same is a schema of one field, many times.
func same(n int, f field.Field) schema { return slices.Repeat(schema{f}, n) }

func filled(n int, b byte) []byte { return bytes.Repeat([]byte{b}, n) }

func u(n uint64) field.Value { return field.Value{U: n} }

func i(n int64) field.Value { return field.Value{I: n} }

func yes(t bool) field.Value { return field.Value{T: t} }

func text(s string) field.Value { return field.Value{B: []byte(s)} }

// rising are a few values of a kind that rise: its edges among them, and of texts such with bytes 0 and 255, and such of which one is the beginning of the other. The parts that do not count go the other way.
func rising(kind int) values {
	var all values
	k := kinds[kind-1]
	switch {
	case kind <= 4:
		most := uint64(math.MaxUint64) >> (64 - 8*k.width)
		for n, x := range []uint64{0, 1, most / 2, most - 1, most} {
			all = append(all, field.Value{U: x, I: -int64(n), B: filled(1, byte(255-n)), T: n%2 == 0})
		}
	case kind <= 8:
		most := int64(math.MaxInt64) >> (64 - 8*k.width)
		for n, x := range []int64{-most - 1, -2, -1, 0, 1, most} {
			all = append(all, field.Value{U: uint64(99 - n), I: x, B: filled(1, byte(255-n)), T: n%2 == 0})
		}
	case kind == 9:
		all = values{{U: 5, I: 6, B: []byte("z")}, {U: 4, I: 5, B: []byte("y"), T: true}}
	default:
		for n, x := range []string{"", "\x00", "\x00\x00", "\x00\xff", "\x01", "a", "a\x00", "a\x00b", "ab", "a\xff", "\xff", "\xff\x00", "\xff\xff"} {
			all = append(all, field.Value{U: uint64(99 - n), I: -int64(n), B: []byte(x), T: n%2 == 0})
		}
	}
	return all
}

// other are the other ones of bytes, if the field falls.
func other(f field.Field, b []byte) []byte {
	b = slices.Clone(b)
	for n := range b {
		if f.Falls {
			b[n] ^= 255
		}
	}
	return b
}

// bytesOf are a value's bytes by another way.
func bytesOf(f field.Field, v field.Value) []byte {
	k := kinds[f.Kind-1]
	var b []byte
	switch {
	case f.Kind <= 4:
		b = new(big.Int).SetUint64(v.U).FillBytes(make([]byte, k.width))
	case f.Kind <= 8:
		half := new(big.Int).Lsh(big.NewInt(1), uint(8*k.width-1))
		b = half.Add(half, big.NewInt(v.I)).FillBytes(make([]byte, k.width))
	case f.Kind == 9:
		b = []byte{0}
		if v.T {
			b = []byte{1}
		}
	default:
		b = []byte(strings.ReplaceAll(string(v.B), "\x00", "\x00\xff") + "\x00\x00")
	}
	return other(f, b)
}

// allBytesOf are a tuple's bytes by another way.
func allBytesOf(s schema, t values) []byte {
	var b []byte
	for n, f := range s {
		b = append(b, bytesOf(f, t[n])...)
	}
	return b
}

// bare are values with the parts alone that count.
func bare(s schema, t values) values {
	var all values
	for n, f := range s {
		switch {
		case f.Kind <= 4:
			all = append(all, field.Value{U: t[n].U})
		case f.Kind <= 8:
			all = append(all, field.Value{I: t[n].I})
		case f.Kind == 9:
			all = append(all, field.Value{T: t[n].T})
		default:
			all = append(all, field.Value{B: t[n].B})
		}
	}
	return all
}

// equal tells whether all parts of all values are the same.
func equal(a, b values) bool {
	return slices.EqualFunc(a, b, func(x, y field.Value) bool {
		return x.U == y.U && x.I == y.I && bytes.Equal(x.B, y.B) && x.T == y.T
	})
}

// textOf is a schema's text by another way.
func textOf(s schema) string {
	var all strings.Builder
	for _, f := range s {
		all.WriteString(",")
		if f.Falls {
			all.WriteString("-")
		}
		all.WriteString(kinds[f.Kind-1].name)
	}
	return strings.TrimPrefix(all.String(), ",")
}

// few is a list's beginning, for what a test tells.
func few(b []byte) []byte { return b[:min(len(b), 12)] }

// tuplesOf are some tuples of a schema: each value of each field, with the others at every place of theirs. So many begin alike, and part later.
func tuplesOf(s schema) []values {
	all := []values{nil}
	for _, f := range s {
		var longer []values
		for _, t := range all {
			for _, v := range rising(f.Kind) {
				longer = append(longer, append(slices.Clone(t), v))
			}
		}
		all = longer
	}
	return all
}

// schemas are those of none, of each field alone, of each two, and some of more.
func schemas() []schema {
	all := []schema{nil, {}}
	for _, a := range fields() {
		all = append(all, schema{a})
		for _, b := range fields() {
			all = append(all, schema{a, b})
		}
	}
	return append(all,
		schema{rises(field.Text), rises(field.Bool), rises(field.Text)},
		schema{down(field.Text), down(field.U8), rises(field.Text)},
		schema{rises(field.I8), down(field.Text), rises(field.Bool)},
		schema{down(field.Bool), rises(field.Text), down(field.I64)},
		schema{rises(field.Bool), down(field.Bool), rises(field.U32), down(field.I16)})
}

// wrongSchemas are those that may not be, each with what is told of it.
func wrongSchemas() map[api.Errno][]schema {
	all := map[api.Errno][]schema{
		api.ErrMany: {
			same(256, rises(field.U8)), same(257, down(field.Text)), same(1000, rises(field.Bool)),
			same(256, rises(0)), same(300, rises(11)),
			append(schema{rises(0)}, same(255, rises(field.U8))...),
			append(same(255, rises(field.U8)), rises(99)),
		},
	}
	for _, kind := range noKinds {
		for _, f := range (schema{rises(kind), down(kind)}) {
			all[api.ErrKind] = append(all[api.ErrKind],
				schema{f}, schema{f, rises(field.U8)}, schema{rises(field.U8), f},
				schema{rises(field.Text), f, rises(field.Bool)}, schema{rises(field.U8), down(field.Text), f},
				append(schema{f}, same(254, rises(field.U8))...), append(same(254, rises(field.U8)), f), same(255, f))
		}
	}
	return all
}

// P6.1

func TestCheck(t *testing.T) {
	for _, s := range append(schemas(), fields(), same(255, rises(field.U8)), same(255, down(field.Text)), same(254, rises(field.Bool))) {
		if e := Check(s); e != api.OK {
			t.Errorf("Check(%v): %v", s, e)
		}
	}
	for want, all := range wrongSchemas() {
		for _, s := range all {
			if e := Check(s); e != want {
				t.Errorf("Check of %d fields, %v ..: %v, not %v", len(s), s[0], e, want)
			}
		}
	}
}

// What may not be a schema is told of ahead of all else, with nothing beside it.
func TestWrongSchemas(t *testing.T) {
	for want, all := range wrongSchemas() {
		for _, s := range all {
			n := len(s)
			for _, v := range []values{nil, {u(1)}, make(values, n-1), make(values, n), make(values, n+1), slices.Repeat(values{u(math.MaxUint64)}, n), slices.Repeat(values{i(math.MinInt64)}, n+1)} {
				if b, e := Put(s, v); len(b) != 0 || e != want {
					t.Errorf("Put of %d fields, %v .., %d values: %v, %v, not %v", n, s[0], len(v), b, e, want)
				}
			}
			for _, b := range [][]byte{nil, {0}, {7}, {0, 5}, filled(n, 0), filled(2*n, 0), filled(2*n, 255), filled(65535, 0), filled(65536, 0), filled(70000, 1)} {
				if v, e := Get(s, b); len(v) != 0 || e != want {
					t.Errorf("Get of %d fields, %v .., %d bytes: %v, %v, not %v", n, s[0], len(b), v, e, want)
				}
				for _, first := range []int{0, 1, n, n + 1, -1, math.MinInt, math.MaxInt} {
					if p, e := First(s, b, first); len(p) != 0 || e != want {
						t.Errorf("First of %d fields, %v .., %d bytes, %d: %v, %v, not %v", n, s[0], len(b), first, p, e, want)
					}
				}
			}
			if x, e := Text(s); x != "" || e != want {
				t.Errorf("Text of %d fields, %v ..: %q, %v, not %v", n, s[0], x, e, want)
			}
		}
	}
}

// written are tuples whose bytes are written out.
var written = []struct {
	s schema
	t values
	b []byte
}{
	{nil, nil, nil},
	{schema{rises(field.U8)}, values{u(5)}, []byte{5}},
	{schema{down(field.U8)}, values{u(5)}, []byte{250}},
	{schema{rises(field.I8)}, values{i(-1)}, []byte{127}},
	{schema{rises(field.U16), down(field.U16)}, values{u(258), u(258)}, []byte{1, 2, 254, 253}},
	{schema{rises(field.U32), rises(field.U64)}, values{u(1), u(2)}, []byte{0, 0, 0, 1, 0, 0, 0, 0, 0, 0, 0, 2}},
	{schema{down(field.I32), rises(field.I64)}, values{i(-1), i(-1)}, []byte{128, 0, 0, 0, 127, 255, 255, 255, 255, 255, 255, 255}},
	{schema{rises(field.Bool), down(field.Bool), rises(field.Bool)}, values{yes(true), yes(true), yes(false)}, []byte{1, 254, 0}},
	{schema{rises(field.Text)}, values{{}}, []byte{0, 0}},
	{schema{down(field.Text)}, values{{}}, []byte{255, 255}},
	{schema{rises(field.Text), rises(field.U8)}, values{text("ab"), u(7)}, []byte{'a', 'b', 0, 0, 7}},
	{schema{rises(field.Text), rises(field.Text)}, values{text("a\x00"), text("\xff")}, []byte{'a', 0, 255, 0, 0, 255, 0, 0}},
	{schema{down(field.Text), rises(field.Text)}, values{text("\x00a"), text("\x00")}, []byte{255, 0, 158, 255, 255, 0, 255, 0, 0}},
	{schema{rises(field.I16), down(field.Text), rises(field.Bool)}, values{i(-32768), text("\xff"), yes(true)}, []byte{0, 0, 0, 255, 255, 1}},
}

func TestWritten(t *testing.T) {
	for _, c := range written {
		if b, e := Put(c.s, c.t); !bytes.Equal(b, c.b) || e != api.OK {
			t.Errorf("Put(%v, %v): %v, %v, not %v", c.s, c.t, b, e, c.b)
		}
		if v, e := Get(c.s, c.b); !equal(v, c.t) || e != api.OK {
			t.Errorf("Get(%v, %v): %v, %v, not %v", c.s, c.b, v, e, c.t)
		}
	}
}

func TestPutOfTuples(t *testing.T) {
	for _, s := range schemas() {
		for _, v := range tuplesOf(s) {
			want := allBytesOf(s, v)
			if b, e := Put(s, v); !bytes.Equal(b, want) || e != api.OK {
				t.Fatalf("Put(%v, %v): %v, %v, not %v", s, v, b, e, want)
			}
		}
	}
}

// Fewer and more values than fields: told ahead of values that are none of their width, and of too many bytes.
func TestPutByCount(t *testing.T) {
	big, long := u(math.MaxUint64), text(strings.Repeat("a", 70000))
	for _, s := range []schema{nil, {rises(field.U8)}, {down(field.Text)}, {rises(field.U8), rises(field.Text)}, same(254, rises(field.U8)), same(255, rises(field.Text))} {
		for _, v := range (values{u(1), big, long}) {
			for n := range len(s) + 4 {
				want := api.ErrEnd
				switch {
				case n == len(s):
					continue
				case n > len(s):
					want = api.ErrMany
				}
				if b, e := Put(s, slices.Repeat(values{v}, n)); len(b) != 0 || e != want {
					t.Errorf("Put of %d fields, %d values: %v, %v, not %v", len(s), n, few(b), e, want)
				}
			}
		}
	}
}

// At the first, at a later and at the last place; parts that do not count may be as great as they like.
func TestPutOfNumbersOfNoWidth(t *testing.T) {
	great := field.Value{U: math.MaxUint64, I: math.MinInt64, B: []byte("great"), T: true}
	for _, c := range []struct {
		kind int
		bad  field.Value
	}{
		{field.U8, u(256)}, {field.U8, u(math.MaxUint64)}, {field.U16, u(65536)}, {field.U32, u(1 << 32)},
		{field.I8, i(128)}, {field.I8, i(-129)}, {field.I16, i(32768)}, {field.I16, i(-32769)}, {field.I32, i(math.MaxInt32 + 1)}, {field.I32, i(math.MinInt32 - 1)},
		{field.U8, great}, {field.U16, great}, {field.U32, great}, {field.I8, great}, {field.I16, great}, {field.I32, great},
	} {
		for _, f := range (schema{rises(c.kind), down(c.kind)}) {
			for place := range 4 {
				s := schema{rises(field.Text), down(field.U64), rises(field.Bool), down(field.I64)}
				v := values{great, great, great, great}
				s[place], v[place] = f, c.bad
				if b, e := Put(s, v); len(b) != 0 || e != api.ErrBig {
					t.Errorf("Put(%v, %v): %v, %v", s, v, b, e)
				}
			}
		}
	}
	s := schema{rises(field.Text), down(field.U64), rises(field.Bool), down(field.I64)}
	v := values{great, great, great, great}
	if b, e := Put(s, v); !bytes.Equal(b, allBytesOf(s, v)) || e != api.OK {
		t.Errorf("Put(%v, %v): %v, %v", s, v, b, e)
	}
}

// Just as many bytes as a key may have, and one more: they are put, and read again, or neither.
func TestMostBytes(t *testing.T) {
	letters := func(n int) field.Value { return field.Value{B: filled(n, 'a')} }
	zeros := func(n int, more string) field.Value { return field.Value{B: append(filled(n, 0), more...)} }
	for _, way := range []func(int) field.Field{rises, down} {
		for _, c := range []struct {
			s schema
			t values
			n int // how many bytes there are
		}{
			{schema{way(10)}, values{letters(65532)}, 65534},
			{schema{way(10)}, values{letters(65533)}, 65535},
			{schema{way(10)}, values{letters(65534)}, 65536},
			{schema{way(10)}, values{zeros(32766, "a")}, 65535},
			{schema{way(10)}, values{zeros(32767, "")}, 65536},
			{schema{way(10)}, values{letters(200000)}, 200002},
			{schema{way(10), way(1)}, values{letters(65532), u(3)}, 65535},
			{schema{way(10), way(1)}, values{letters(65533), u(3)}, 65536},
			{schema{way(1), way(10)}, values{u(3), letters(65532)}, 65535},
			{schema{way(1), way(10)}, values{u(3), letters(65533)}, 65536},
			{schema{way(10), way(10)}, values{letters(65531), letters(0)}, 65535},
			{schema{way(10), way(10)}, values{letters(0), letters(65532)}, 65536},
			{schema{way(10), way(8), way(10)}, values{letters(30000), i(-1), letters(35523)}, 65535},
			{schema{way(10), way(8), way(10)}, values{letters(30000), i(-1), letters(35524)}, 65536},
			{schema{way(10), way(8)}, values{letters(65526), i(-1)}, 65536},
			{schema{way(10), way(10), way(9)}, values{letters(65534), letters(65534), yes(true)}, 131073},
			{same(255, way(10)), slices.Repeat(values{letters(255)}, 255), 65535},
			{same(255, way(10)), append(slices.Repeat(values{letters(255)}, 254), letters(256)), 65536},
			{same(255, way(10)), append(values{letters(256)}, slices.Repeat(values{letters(255)}, 254)...), 65536},
			{same(255, way(4)), slices.Repeat(values{u(7)}, 255), 2040},
		} {
			whole := allBytesOf(c.s, c.t)
			if len(whole) != c.n {
				t.Fatalf("the case is %d bytes, not %d", len(whole), c.n)
			}
			b, e := Put(c.s, c.t)
			v, eGet := Get(c.s, whole)
			if c.n > 65535 {
				if len(b) != 0 || e != api.ErrBig || len(v) != 0 || eGet != api.ErrBig {
					t.Errorf("%d fields, %v .., %d bytes: %d bytes, %v; %d values, %v", len(c.s), c.s[0], c.n, len(b), e, len(v), eGet)
				}
				continue
			}
			if !bytes.Equal(b, whole) || e != api.OK || !equal(v, c.t) || eGet != api.OK {
				t.Errorf("%d fields, %v .., %d bytes: %d bytes, %v; %d values, %v", len(c.s), c.s[0], c.n, len(b), e, len(v), eGet)
			}
		}
	}
}

// Too many bytes and a number of no width, whichever stands ahead: both are told as one.
func TestPutOfTooMuchTwice(t *testing.T) {
	for _, s := range []schema{{rises(field.Text), rises(field.U8)}, {rises(field.U8), rises(field.Text)}} {
		v := field.Value{U: 256, B: filled(70000, 1)}
		if b, e := Put(s, values{v, v}); len(b) != 0 || e != api.ErrBig {
			t.Errorf("Put(%v): %v, %v", s, few(b), e)
		}
	}
}

// wrong looks whether Get tells an error, and nothing beside it.
func wrong(t *testing.T, s schema, b []byte, want api.Errno) {
	t.Helper()
	if v, e := Get(s, b); len(v) != 0 || e != want {
		t.Errorf("Get of %d fields, %v, %d bytes, %v ..: %v, %v, not %v", len(s), s[:min(len(s), 4)], len(b), few(b), v, e, want)
	}
}

// Every beginning of a tuple's bytes ends too early; every byte behind them is one too many.
func TestGetOfCutBytes(t *testing.T) {
	for _, s := range append(schemas(), fields()) {
		var v values
		for _, f := range s {
			few := rising(f.Kind)
			v = append(v, few[len(few)/2])
		}
		b := allBytesOf(s, v)
		for n := range len(b) {
			wrong(t, s, b[:n:n], api.ErrEnd)
			wrong(t, s, b[:n], api.ErrEnd)
		}
		for _, behind := range [][]byte{{0}, {1}, {255}, {0, 0}, {255, 255}, {0, 255, 0, 0}, b} {
			if len(behind) > 0 {
				wrong(t, s, slices.Concat(b, behind), api.ErrForm)
			}
		}
	}
}

// Behind a tuple's bytes there may be as many as a key may have, and one more.
func TestGetOfManyBytesBehind(t *testing.T) {
	for _, s := range []schema{nil, {rises(field.U8)}, {rises(field.Text)}, {down(field.Text), rises(field.U64)}, same(255, rises(field.U8))} {
		b := allBytesOf(s, make(values, len(s)))
		wrong(t, s, append(slices.Clone(b), filled(65535-len(b), 7)...), api.ErrForm)
		wrong(t, s, append(slices.Clone(b), filled(65536-len(b), 7)...), api.ErrBig)
	}
}

// Bytes of too many are told as such ahead of what a field would tell of them.
func TestGetOfTooManyBytes(t *testing.T) {
	for _, c := range []struct {
		s    schema
		b    byte
		want api.Errno // of as many as there may be
	}{
		{schema{rises(field.Bool)}, 7, api.ErrForm},
		{schema{rises(field.Text)}, 7, api.ErrEnd},
		{schema{down(field.Text)}, 0, api.ErrEnd},
		{schema{rises(field.U8), rises(field.Text)}, 255, api.ErrEnd},
		{schema{down(field.Bool)}, 1, api.ErrForm},
		{nil, 0, api.ErrForm},
		{schema{rises(field.U64)}, 0, api.ErrForm},
	} {
		wrong(t, c.s, filled(65535, c.b), c.want)
		wrong(t, c.s, filled(65536, c.b), api.ErrBig)
		wrong(t, c.s, filled(200000, c.b), api.ErrBig)
	}
}

// Bytes of a form that is none, at the first and at a later place; of two faults the first one is told.
func TestGetOfWrongForms(t *testing.T) {
	bools, texts := rises(field.Bool), rises(field.Text)
	for _, c := range []struct {
		s    schema
		b    []byte
		want api.Errno
	}{
		{schema{bools}, []byte{2}, api.ErrForm},
		{schema{down(field.Bool)}, []byte{1}, api.ErrForm},
		{schema{rises(field.U8), bools}, []byte{9, 255}, api.ErrForm},
		{schema{bools, rises(field.U8)}, []byte{3, 9}, api.ErrForm},
		{schema{texts}, []byte{'a', 0, 5}, api.ErrForm},
		{schema{texts}, []byte{'a', 0, 5, 0, 0}, api.ErrForm},
		{schema{down(field.Text)}, []byte{158, 255, 5, 255, 255}, api.ErrForm},
		{schema{down(field.Text)}, []byte{158, 255, 0, 255, 254}, api.ErrForm},
		{schema{rises(field.U8), texts}, []byte{9, 0, 1, 0, 0}, api.ErrForm},
		{schema{texts, rises(field.U8)}, []byte{0, 254, 0, 0, 9}, api.ErrForm},
		// A wrong form, and behind it too few bytes.
		{schema{bools, rises(field.U64)}, []byte{2, 9}, api.ErrForm},
		{schema{texts, rises(field.U64)}, []byte{0, 7, 0, 0}, api.ErrForm},
		{schema{bools, bools, bools}, []byte{1, 2}, api.ErrForm},
		// Too few bytes for one, and so none for those behind it.
		{schema{rises(field.U16), bools}, []byte{2}, api.ErrEnd},
		{schema{texts, bools}, []byte{2, 2, 2}, api.ErrEnd},
		{schema{bools, texts, bools}, []byte{1, 9, 0}, api.ErrEnd},
		// A missing end, since a text takes what the next one's bytes would be.
		{schema{texts, texts}, []byte{'a', 0, 0, 'b'}, api.ErrEnd},
		{schema{texts, texts}, []byte{'a', 0, 255, 0, 0}, api.ErrEnd},
		// Bytes of one that rises for one that falls.
		{schema{down(field.Text), rises(field.U8)}, []byte{'a', 0, 0, 9}, api.ErrEnd},
		// Bytes behind are told of only where all fields have theirs.
		{schema{rises(field.U8), bools}, []byte{1, 2, 3}, api.ErrForm},
		{schema{rises(field.U8), rises(field.U8)}, []byte{1, 2, 3}, api.ErrForm},
		{nil, []byte{0}, api.ErrForm},
	} {
		wrong(t, c.s, c.b, c.want)
	}
}

// decode takes a value by another way, and tells how many bytes it has.
func decode(f field.Field, b []byte) (field.Value, int, api.Errno) {
	b = other(f, b)
	k := kinds[f.Kind-1]
	var v field.Value
	switch {
	case f.Kind <= 8 && len(b) < k.width, len(b) == 0:
		return v, 0, api.ErrEnd
	case f.Kind <= 4:
		v.U = new(big.Int).SetBytes(b[:k.width]).Uint64()
		return v, k.width, api.OK
	case f.Kind <= 8:
		half := new(big.Int).Lsh(big.NewInt(1), uint(8*k.width-1))
		v.I = half.Sub(new(big.Int).SetBytes(b[:k.width]), half).Int64()
		return v, k.width, api.OK
	case f.Kind == 9 && b[0] > 1:
		return v, 0, api.ErrForm
	case f.Kind == 9:
		return field.Value{T: b[0] == 1}, 1, api.OK
	}
	for n := 0; n < len(b); n++ {
		v.B = append(v.B, b[n])
		if b[n] != 0 {
			continue
		}
		n++
		switch {
		case n == len(b):
			return field.Value{}, 0, api.ErrEnd
		case b[n] == 0:
			v.B = v.B[:len(v.B)-1]
			return v, n + 1, api.OK
		case b[n] != 255:
			return field.Value{}, 0, api.ErrForm
		}
	}
	return field.Value{}, 0, api.ErrEnd
}

// decodeAll takes the first values by another way, and tells how many bytes they have.
func decodeAll(s schema, b []byte) (values, int, api.Errno) {
	var all values
	at := 0
	for _, f := range s {
		v, n, e := decode(f, b[at:])
		if e != api.OK {
			return nil, 0, e
		}
		all = append(all, v)
		at += n
	}
	return all, at, api.OK
}

// fewLists are all lists of at most so many bytes out of those.
func fewLists(most int, of ...byte) [][]byte {
	all := [][]byte{nil}
	last := all
	for range most {
		var longer [][]byte
		for _, b := range last {
			for _, c := range of {
				longer = append(longer, append(slices.Clone(b), c))
			}
		}
		all = append(all, longer...)
		last = longer
	}
	return all
}

// Every list of at most six bytes out of those that mean something, of many schemas: Get and First answer what another way does, and what Get takes is put as the same.
func TestAllShortLists(t *testing.T) {
	great := func(f field.Field) bool { return kinds[f.Kind-1].width > 4 }
	some := slices.DeleteFunc(schemas(), func(s schema) bool { return slices.ContainsFunc(s, great) })
	lists := fewLists(6, 0, 1, 254, 255)
	for _, s := range some {
		for _, b := range lists {
			all, n, want := decodeAll(s, b)
			first, e := First(s, b, len(s))
			if e != want || !bytes.Equal(first, b[:n]) {
				t.Fatalf("First(%v, %v): %v, %v, not %v, %v", s, b, first, e, b[:n], want)
			}
			if want == api.OK && n < len(b) {
				all, want = nil, api.ErrForm
			}
			v, e := Get(s, b)
			if e != want || !equal(v, all) {
				t.Fatalf("Get(%v, %v): %v, %v, not %v, %v", s, b, v, e, all, want)
			}
			if e != api.OK {
				continue
			}
			if again, e := Put(s, v); !bytes.Equal(again, b) || e != api.OK {
				t.Fatalf("%v: %v is %v, which is %v, %v", s, b, v, again, e)
			}
		}
	}
}

// P6.2

func TestCmp(t *testing.T) {
	two := schema{rises(field.U8), down(field.Text)}
	for _, c := range []struct {
		s    schema
		a, b values
		want int
	}{
		{nil, nil, nil, 0},
		{nil, values{u(1)}, values{u(2)}, 0},
		{two, nil, values{u(1), text("a")}, 0},
		{two, values{u(1), text("a")}, values{u(1), text("a")}, 0},
		{two, values{u(1), text("a")}, values{u(2), text("a")}, -1},
		{two, values{u(1), text("a")}, values{u(1), text("b")}, 1},
		{two, values{u(1), text("a")}, values{u(2), text("b")}, -1},
		{two, values{u(1), text("b")}, values{u(2), text("a")}, -1},
		{two, values{u(1), text("")}, values{u(1), text("\x00")}, 1},
		// As many as the least of the three has.
		{two, values{u(1)}, values{u(1), text("b")}, 0},
		{two, values{u(1)}, values{u(2), text("b")}, -1},
		{two[:1], values{u(1), text("a")}, values{u(1), text("b")}, 0},
		{two, values{u(1), text("a"), u(1)}, values{u(1), text("a"), u(2)}, 0},
		{two, values{u(1), text("a"), u(1)}, values{u(1), text("b")}, 1},
		// What does not count tells nothing.
		{two, values{{U: 1, I: 5, T: true, B: []byte("x")}, {U: 9, B: []byte("a")}}, values{{U: 1}, {U: 8, I: 8, T: true, B: []byte("a")}}, 0},
		// A kind that is none has one value, so to say; those behind it count.
		{schema{rises(0), rises(field.U8)}, values{u(1), u(1)}, values{u(2), u(1)}, 0},
		{schema{rises(0), rises(field.U8)}, values{u(2), u(1)}, values{u(1), u(2)}, -1},
		{schema{rises(field.U8), rises(11)}, values{u(1), u(1)}, values{u(1), u(2)}, 0},
		{schema{down(field.I8), down(-1)}, values{i(-1), u(1)}, values{i(1), u(2)}, 1},
		// Numbers that are none of the width stand as they are.
		{schema{rises(field.U8), rises(field.U8)}, values{u(256), u(0)}, values{u(1), u(9)}, 1},
	} {
		if n := Cmp(c.s, c.a, c.b); n != c.want {
			t.Errorf("Cmp(%v, %v, %v): %d, not %d", c.s, c.a, c.b, n, c.want)
		}
		if n := Cmp(c.s, c.b, c.a); n != -c.want {
			t.Errorf("Cmp(%v, %v, %v): %d, not %d", c.s, c.b, c.a, n, -c.want)
		}
	}
}

// At every place: those ahead are the same, those behind go the other way.
func TestCmpAtEachPlace(t *testing.T) {
	s := fields()
	for place, f := range s {
		a, b := make(values, len(s)), make(values, len(s))
		for n, g := range s {
			x, y := rising(g.Kind)[0], rising(g.Kind)[1]
			switch {
			case n < place:
				a[n], b[n] = y, y
			case n == place, g.Falls != f.Falls:
				a[n], b[n] = x, y
			default:
				a[n], b[n] = y, x
			}
		}
		want := -1
		if f.Falls {
			want = 1
		}
		if n, m := Cmp(s, a, b), Cmp(s, b, a); n != want || m != -want {
			t.Errorf("Cmp at place %d, %v: %d, %d", place, f, n, m)
		}
		if n := Cmp(s[:place], a, b); n != 0 {
			t.Errorf("Cmp of what stands ahead of place %d: %d", place, n)
		}
	}
}

// Of more fields than may be, too: Cmp asks for no schema that may.
func TestCmpOfManyFields(t *testing.T) {
	a, b := make(values, 300), make(values, 300)
	b[299] = u(1)
	if n := Cmp(same(300, rises(field.U8)), a, b); n != -1 {
		t.Error(n)
	}
	if n := Cmp(same(300, down(field.U8)), a, b); n != 1 {
		t.Error(n)
	}
	if n := Cmp(same(299, rises(field.U8)), a, b); n != 0 {
		t.Error(n)
	}
	if n := Cmp(same(300, rises(0)), a, b); n != 0 {
		t.Error(n)
	}
}

func TestText(t *testing.T) {
	for _, c := range []struct {
		s    schema
		want string
	}{
		{nil, ""},
		{schema{}, ""},
		{schema{down(field.U8)}, "-u8"},
		{schema{rises(field.U8)}, "u8"},
		{schema{rises(field.Text), down(field.Bool)}, "text,-bool"},
		{fields(), "u8,-u8,u16,-u16,u32,-u32,u64,-u64,i8,-i8,i16,-i16,i32,-i32,i64,-i64,bool,-bool,text,-text"},
		{same(255, down(field.I64)), "-i64" + strings.Repeat(",-i64", 254)},
	} {
		if got, e := Text(c.s); got != c.want || e != api.OK {
			t.Errorf("Text(%v): %q, %v, not %q", c.s, got, e, c.want)
		}
		if s, e := Parse(c.want); !slices.Equal(s, c.s) || e != api.OK {
			t.Errorf("Parse(%q): %v, %v, not %v", c.want, s, e, c.s)
		}
	}
}

func TestTextIsParsed(t *testing.T) {
	for _, s := range append(schemas(), fields(), same(254, rises(field.Bool)), same(255, rises(field.U16)), same(255, down(field.Text))) {
		x, e := Text(s)
		if x != textOf(s) || e != api.OK {
			t.Fatalf("Text(%v): %q, %v, not %q", s, x, e, textOf(s))
		}
		if got, e := Parse(x); !slices.Equal(got, s) || e != api.OK {
			t.Fatalf("Parse(%q): %v, %v", x, got, e)
		}
	}
}

// Texts that are no schema's.
var noTexts = []string{
	",", ",,", "u8,", ",u8", "u8,,u8", "u8,u8,", ",u8,u8", "-", "--", "-,u8", "u8,-", "-u8,",
	" ", " u8", "u8 ", "u8, u8", "u8 ,u8", "- u8", "u8\n", "\tu8", "u8,\nu8", "u8\x00", "\x00", "u 8",
	"U8", "u8,I8", "Bool", "BOOL", "Text", "-TEXT", "bOOL",
	"--u8", "+u8", "-+u8", "u8-", "u-8", "u8,--u8", "---u8", "\u2212u8", "\u2013u8",
	"u", "i", "8", "u9", "u1", "u6", "u08", "u88", "u81", "i4", "i128", "u128", "u0", "u-1", "boo", "bools", "bo", "tex", "texts", "t", "text8", "string", "u8u8", "u8;u8", "u8.u8", "u8u16", "1", "10", "nil", "u16u", "u8\xff", "\xff", "é",
}

func TestParseOfWrongTexts(t *testing.T) {
	long := func(n int) string { return strings.Repeat("u8,", n) }
	for _, x := range noTexts {
		all := []string{x, x + ",u8", "u8," + x, "-text," + x + ",bool", long(254) + x, long(255) + x, long(300) + x, x + "," + long(300) + "u8", long(300) + x + "," + long(300) + "u8"}
		for _, x := range all {
			if s, e := Parse(x); len(s) != 0 || e != api.ErrForm {
				t.Errorf("Parse of %d signs, %.20q ..: %v, %v", len(x), x, s[:min(len(s), 4)], e)
			}
		}
	}
	for _, x := range []string{long(255), long(256), long(1000), "," + long(299) + "u8", strings.Repeat(",", 300), strings.Repeat("-", 300), strings.Repeat("u", 100000)} {
		if s, e := Parse(x); len(s) != 0 || e != api.ErrForm {
			t.Errorf("Parse of %d signs, %.20q ..: %v, %v", len(x), x, s[:min(len(s), 4)], e)
		}
	}
}

// Just as many fields as may be, and more.
func TestParseOfManyFields(t *testing.T) {
	for _, n := range []int{254, 255, 256, 257, 300, 1000, 100000} {
		for _, f := range fields() {
			s, e := Parse(textOf(same(n, f)))
			if n <= 255 && (!slices.Equal(s, same(n, f)) || e != api.OK) || n > 255 && (len(s) != 0 || e != api.ErrMany) {
				t.Errorf("Parse of %d times %v: %d fields, %v", n, f, len(s), e)
			}
			if n >= 1000 {
				break
			}
		}
	}
}

// Every text one sign away from those of schemas, held against the form as a pattern.
func TestParseNearTexts(t *testing.T) {
	one := `-?(?:[ui](?:8|16|32|64)|bool|text)`
	form := regexp.MustCompile(`^(?:` + one + `(?:,` + one + `)*)?$`)
	for _, s := range schemas() {
		x := textOf(s)
		near := []string{x}
		for n := range len(x) + 1 {
			for _, c := range []byte("-, u8i1632416btxeU\x00\n\xff") {
				near = append(near, x[:n]+string([]byte{c})+x[n:])
				if n < len(x) {
					near = append(near, x[:n]+string([]byte{c})+x[n+1:])
				}
			}
			if n < len(x) {
				near = append(near, x[:n]+x[n+1:])
			}
		}
		for _, x := range near {
			got, e := Parse(x)
			if !form.MatchString(x) {
				if len(got) != 0 || e != api.ErrForm {
					t.Fatalf("Parse(%q): %v, %v", x, got, e)
				}
			} else if textOf(got) != x || e != api.OK {
				t.Fatalf("Parse(%q): %v, %v", x, got, e)
			}
		}
	}
}

// P6.3

func TestFirst(t *testing.T) {
	s := schema{rises(field.U16), down(field.Text), rises(field.Bool), rises(field.Text)}
	b := []byte{1, 2, 158, 255, 0, 255, 255, 1, 'b', 0, 255, 0, 0}
	for n, want := range []int{0, 2, 7, 8, 13} {
		for _, behind := range [][]byte{nil, {0}, {255, 7}, filled(70000, 0)} {
			if got, e := First(s, slices.Concat(b, behind), n); !bytes.Equal(got, b[:want]) || e != api.OK {
				t.Errorf("First of %d: %v, %v, not %v", n, few(got), e, b[:want])
			}
		}
	}
	for _, n := range []int{5, 6, 255, 256, math.MaxInt, -1, -2, -4, math.MinInt} {
		if got, e := First(s, b, n); len(got) != 0 || e != api.ErrEnd {
			t.Errorf("First of %d: %v, %v", n, got, e)
		}
	}
}

// Just what the first n ones have is asked for: nothing is told of the bytes behind them.
func TestFirstLooksAtTheFirstAlone(t *testing.T) {
	for _, s := range append(schemas(), fields()) {
		v := make(values, len(s))
		for n, f := range s {
			v[n] = rising(f.Kind)[1]
		}
		b := allBytesOf(s, v)
		for n := range len(s) + 1 {
			end := len(allBytesOf(s[:n], v))
			for _, have := range [][]byte{b, b[:end], b[:end:end], slices.Concat(b[:end], []byte{0, 7}), slices.Concat(b[:end], []byte{255, 7})} {
				if got, e := First(s, have, n); !bytes.Equal(got, b[:end]) || e != api.OK {
					t.Fatalf("First(%v, %v, %d): %v, %v, not %v", s, have, n, got, e, b[:end])
				}
			}
			for short := range end {
				if got, e := First(s, b[:short], n); len(got) != 0 || e != api.ErrEnd {
					t.Fatalf("First(%v, %v, %d): %v, %v", s, b[:short], n, got, e)
				}
			}
		}
	}
}

func TestFirstOfWrongBytes(t *testing.T) {
	s := schema{rises(field.U8), rises(field.Bool), rises(field.Text), down(field.Text), rises(field.U64)}
	for _, c := range []struct {
		b    []byte
		want [6]api.Errno // of each n
	}{
		{nil, [6]api.Errno{0, 4, 4, 4, 4, 4}},
		{[]byte{9}, [6]api.Errno{0, 0, 4, 4, 4, 4}},
		{[]byte{9, 2}, [6]api.Errno{0, 0, 3, 3, 3, 3}},
		{[]byte{9, 1, 'a'}, [6]api.Errno{0, 0, 0, 4, 4, 4}},
		{[]byte{9, 1, 0, 5, 0, 0}, [6]api.Errno{0, 0, 0, 3, 3, 3}},
		{[]byte{9, 0, 0, 0, 0, 0}, [6]api.Errno{0, 0, 0, 0, 4, 4}},
		{[]byte{9, 0, 0, 0, 255, 254, 255, 255}, [6]api.Errno{0, 0, 0, 0, 3, 3}},
		{[]byte{9, 0, 0, 0, 255, 255, 1, 2, 3, 4, 5, 6, 7}, [6]api.Errno{0, 0, 0, 0, 0, 4}},
	} {
		for n, want := range c.want {
			got, e := First(s, c.b, n)
			if e != want || want != api.OK && len(got) != 0 {
				t.Errorf("First(%v, %d): %v, %v, not %v", c.b, n, got, e, want)
			}
		}
		for _, n := range []int{6, -1} {
			if got, e := First(s, c.b, n); len(got) != 0 || e != api.ErrEnd {
				t.Errorf("First(%v, %d): %v, %v", c.b, n, got, e)
			}
		}
	}
}

// More bytes than a key may have are told as the first ones like others: the chapter names no bound here.
func TestFirstOfManyBytes(t *testing.T) {
	s := schema{rises(field.Text), rises(field.U8)}
	for _, n := range []int{65533, 65534, 70000} {
		b := append(filled(n, 'a'), 0, 0, 7)
		if got, e := First(s, b, 1); !bytes.Equal(got, b[:n+2]) || e != api.OK {
			t.Errorf("First of %d bytes: %d, %v", n, len(got), e)
		}
		if got, e := First(s, b, 2); !bytes.Equal(got, b) || e != api.OK {
			t.Errorf("First of %d bytes: %d, %v", n, len(got), e)
		}
	}
	many := filled(255, 3)
	for _, n := range []int{0, 1, 254, 255} {
		if got, e := First(same(255, rises(field.U8)), many, n); !bytes.Equal(got, many[:n]) || e != api.OK {
			t.Errorf("First of %d: %d bytes, %v", n, len(got), e)
		}
	}
	if got, e := First(same(255, rises(field.U8)), many, 256); len(got) != 0 || e != api.ErrEnd {
		t.Errorf("First of 256: %d bytes, %v", len(got), e)
	}
}

// P6.4

// order is how two tuples of a schema stand, by another way: by the places of their values among those that rise.
func order(s schema, a, b []int) int {
	for n, f := range s {
		switch {
		case a[n] == b[n]:
		case a[n] < b[n] != f.Falls:
			return -1
		default:
			return 1
		}
	}
	return 0
}

// places are all ways to take a value of each field, by their places, with at most so many of a field.
func places(s schema, most int) [][]int {
	all := [][]int{nil}
	for _, f := range s {
		var longer [][]int
		for _, p := range all {
			for n := range min(most, len(rising(f.Kind))) {
				longer = append(longer, append(slices.Clone(p), n))
			}
		}
		all = longer
	}
	return all
}

// Each tuple against each other one: their bytes, and Cmp, go as the tuples; none are the beginning of others.
func TestBytesAreInOrderAsTuples(t *testing.T) {
	for _, s := range schemas() {
		most := 13
		if len(s) > 2 {
			most = 5
		}
		all := places(s, most)
		tuples, put := make([]values, len(all)), make([][]byte, len(all))
		for n, p := range all {
			for m, f := range s {
				tuples[n] = append(tuples[n], rising(f.Kind)[p[m]])
			}
			var e api.Errno
			if put[n], e = Put(s, tuples[n]); e != api.OK {
				t.Fatalf("Put(%v, %v): %v", s, tuples[n], e)
			}
		}
		for a := range all {
			for b := range all {
				want := order(s, all[a], all[b])
				if Cmp(s, tuples[a], tuples[b]) != want || bytes.Compare(put[a], put[b]) != want {
					t.Fatalf("%v: %v is %v, %v is %v: %d", s, tuples[a], put[a], tuples[b], put[b], want)
				}
				if want != 0 && bytes.HasPrefix(put[a], put[b]) {
					t.Fatalf("%v: %v begins with %v", s, put[a], put[b])
				}
			}
		}
	}
}

// Texts of which one is the beginning of the other, ahead of values that would turn them, and at the end.
func TestTextsAheadOfOthersAreInOrder(t *testing.T) {
	for _, c := range []struct {
		s    schema
		a, b values
	}{
		{schema{rises(field.Text), rises(field.U8)}, values{text("a"), u(255)}, values{text("ab"), u(0)}},
		{schema{rises(field.Text), rises(field.U8)}, values{text("a"), u(255)}, values{text("a\x00"), u(0)}},
		{schema{rises(field.Text), rises(field.U64)}, values{text(""), u(math.MaxUint64)}, values{text("\x00"), u(0)}},
		{schema{rises(field.Text), rises(field.Text)}, values{text("a"), text("\xff\xff")}, values{text("a\x00"), text("")}},
		{schema{rises(field.Text), rises(field.Text)}, values{text("a"), text("bc")}, values{text("ab"), text("c")}},
		{schema{down(field.Text), rises(field.U8)}, values{text("ab"), u(255)}, values{text("a"), u(0)}},
		{schema{down(field.Text), rises(field.U8)}, values{text("a\x00"), u(255)}, values{text("a"), u(0)}},
		{schema{down(field.Text), down(field.Text)}, values{text("\xff\xff"), text("")}, values{text("\xff"), text("\xff")}},
		{schema{rises(field.Bool), down(field.Text)}, values{yes(false), text("")}, values{yes(true), text("z")}},
		{schema{rises(field.Bool), down(field.Text)}, values{yes(true), text("\x00\x00")}, values{yes(true), text("\x00")}},
		{schema{rises(field.U8), rises(field.Text)}, values{u(1), text("a")}, values{u(1), text("a\x00")}},
		{schema{rises(field.U8), rises(field.Text)}, values{u(1), text("\xff")}, values{u(1), text("\xff\xff")}},
	} {
		a, e := Put(c.s, c.a)
		b, f := Put(c.s, c.b)
		if e != api.OK || f != api.OK || Cmp(c.s, c.a, c.b) != -1 || bytes.Compare(a, b) != -1 || bytes.HasPrefix(b, a) {
			t.Errorf("%v: %v is %v, %v is %v", c.s, c.a, a, c.b, b)
		}
	}
}

// P6.5

func TestWhatIsPutIsTaken(t *testing.T) {
	for _, s := range schemas() {
		for _, v := range tuplesOf(s) {
			b, e := Put(s, v)
			got, f := Get(s, b)
			if e != api.OK || f != api.OK || !equal(got, bare(s, v)) || Cmp(s, got, v) != 0 {
				t.Fatalf("%v: %v is %v, %v, which is %v, %v", s, v, b, e, got, f)
			}
			if again, e := Put(s, got); !bytes.Equal(again, b) || e != api.OK {
				t.Fatalf("%v: %v is put as %v, %v, not %v", s, got, again, e, b)
			}
			for n := range len(s) + 1 {
				if first, e := First(s, b, n); !bytes.Equal(first, allBytesOf(s[:n], v)) || e != api.OK {
					t.Fatalf("First(%v, %v, %d): %v, %v", s, b, n, first, e)
				}
			}
		}
	}
}

// As many fields as may be, of all kinds.
func TestManyFieldsArePutAndTaken(t *testing.T) {
	var s schema
	var v values
	for n := range 255 {
		f := fields()[n*7%20]
		few := rising(f.Kind)
		s, v = append(s, f), append(v, few[n%len(few)])
	}
	b, e := Put(s, v)
	if !bytes.Equal(b, allBytesOf(s, v)) || e != api.OK {
		t.Fatal("Put:", few(b), e)
	}
	if got, e := Get(s, b); !equal(got, bare(s, v)) || e != api.OK {
		t.Error("Get:", got, e)
	}
	for n := range 256 {
		if got, e := First(s, b, n); !bytes.Equal(got, allBytesOf(s[:n], v)) || e != api.OK {
			t.Errorf("First of %d: %v, %v", n, few(got), e)
		}
	}
}

// The rules

// R4: nothing is written to what was handed in, not even to its spare room, and nothing of it is kept or handed out.
func TestArgumentsStay(t *testing.T) {
	handed := func() (schema, values, []byte) {
		s := schema{rises(field.Text), down(field.Text), rises(field.U8), rises(field.U16)}[:3]
		v := values{text("ab\x00c and more"), text("xyz and more"), u(7), u(99)}[:3]
		v[0].B, v[1].B = v[0].B[:4], v[1].B[:3]
		b := append(allBytesOf(s, v), 1, 2, 3)
		return s, v, b[: len(b)-3 : len(b)]
	}
	s, v, b := handed()
	s0, v0, b0 := handed()
	put, _ := Put(s, v)
	got, _ := Get(s, b)
	first, _ := First(s, b, 2)
	none, _ := First(s, b, 0)
	all, _ := First(s, b, 3)
	Text(s)
	Check(s)
	Cmp(s, v, got)
	want := slices.Clone(put)
	lists := [][]byte{first, all, put, got[0].B, got[1].B, none}
	clean := [][]byte{slices.Clone(first), slices.Clone(all), want, []byte("ab\x00c"), []byte("xyz"), nil}
	for n := range lists {
		if !bytes.Equal(lists[n], clean[n]) {
			t.Fatalf("answer %d: %v, not %v", n, lists[n], clean[n])
		}
		room := lists[n][:cap(lists[n])]
		for m := range room {
			room[m] = 77
		}
		for m := n + 1; m < len(lists); m++ {
			if !bytes.Equal(lists[m], clean[m]) {
				t.Fatalf("answer %d shares memory with answer %d", n, m)
			}
		}
	}
	whole := func(s schema, v values, b []byte) (schema, values, []byte) { return s[:4], v[:4], b[:cap(b)] }
	s1, v1, b1 := whole(s, v, b)
	s2, v2, b2 := whole(s0, v0, b0)
	for n := range v1 {
		v1[n].B, v2[n].B = v1[n].B[:cap(v1[n].B)], v2[n].B[:cap(v2[n].B)]
	}
	if !slices.Equal(s1, s2) || !equal(v1, v2) || !bytes.Equal(b1, b2) {
		t.Error("what was handed in has changed:", s1, v1, b1)
	}
}

// What was answered stays, whatever becomes of what was handed in.
func TestAnswersStay(t *testing.T) {
	s := schema{rises(field.Text), rises(field.U8)}
	v := values{text("ab"), u(7)}
	put, _ := Put(s, v)
	b := slices.Clone(put)
	got, _ := Get(s, b)
	first, _ := First(s, b, 1)
	clear(b)
	clear(v[0].B)
	clear(v)
	clear(s)
	if string(put) != "ab\x00\x00\x07" || !equal(got, values{text("ab"), u(7)}) || string(first) != "ab\x00\x00" {
		t.Error(put, got, first)
	}
}

// R3, R4: answers are new ones each time, and the same ones.
func TestAnswersAreNew(t *testing.T) {
	s, v := schema{rises(field.Text), rises(field.U8)}, values{text("ab"), u(7)}
	b := allBytesOf(s, v)
	for range 3 {
		put, _ := Put(s, v)
		got, _ := Get(s, b)
		first, _ := First(s, b, 2)
		parsed, _ := Parse("text,u8")
		if !bytes.Equal(put, b) || !equal(got, v) || !bytes.Equal(first, b) || !slices.Equal(parsed, s) {
			t.Fatal(put, got, first, parsed)
		}
		clear(put)
		clear(got[0].B)
		clear(got)
		clear(first)
		clear(parsed)
	}
}

// R5: nil and empty lists are the same.
func TestNilIsEmpty(t *testing.T) {
	for _, s := range []schema{nil, {}} {
		for _, v := range []values{nil, {}} {
			if b, e := Put(s, v); len(b) != 0 || e != api.OK {
				t.Error("Put:", b, e)
			}
			if Cmp(s, v, values{u(1)}) != 0 || Cmp(schema{rises(field.U8)}, v, values{u(1)}) != 0 {
				t.Error("Cmp")
			}
			if b, e := Put(schema{rises(field.U8)}, v); len(b) != 0 || e != api.ErrEnd {
				t.Error("Put:", b, e)
			}
		}
		for _, b := range [][]byte{nil, {}} {
			if v, e := Get(s, b); len(v) != 0 || e != api.OK {
				t.Error("Get:", v, e)
			}
			if p, e := First(s, b, 0); len(p) != 0 || e != api.OK {
				t.Error("First:", p, e)
			}
			if v, e := Get(schema{rises(field.Text)}, b); len(v) != 0 || e != api.ErrEnd {
				t.Error("Get:", v, e)
			}
		}
		if x, e := Text(s); x != "" || e != api.OK || Check(s) != api.OK {
			t.Error("Text:", x, e)
		}
	}
	if s, e := Parse(""); len(s) != 0 || e != api.OK {
		t.Error("Parse:", s, e)
	}
}
