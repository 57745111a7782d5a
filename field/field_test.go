package field

import (
	"bytes"
	"math"
	"math/big"
	"slices"
	"strings"
	"testing"

	"spunyarn/api"
)

// kinds are all that there are, each with its number and how many bytes a number of it has, written out.
var kinds = []struct {
	kind, number, width int
	part                byte // which part of a value counts: U, I, T or B
}{
	{U8, 1, 1, 'U'},
	{U16, 2, 2, 'U'},
	{U32, 3, 4, 'U'},
	{U64, 4, 8, 'U'},
	{I8, 5, 1, 'I'},
	{I16, 6, 2, 'I'},
	{I32, 7, 4, 'I'},
	{I64, 8, 8, 'I'},
	{Bool, 9, 0, 'T'},
	{Text, 10, 0, 'B'},
}

// noKinds are numbers that are none: near to the kinds, of the same low bits, of the other sign, and very great ones.
func noKinds() []int {
	few := []int{0, 11, 12, 15, 16, 100, math.MaxInt, math.MaxInt - 1, math.MinInt, math.MinInt + 1, math.MaxInt32, math.MinInt32}
	for _, k := range kinds {
		few = append(few, -k.number, k.number+16, k.number+256, k.number+1<<32, k.number-1<<32, k.number+math.MinInt)
	}
	return few
}

// bothWays are the fields of a kind: one that rises, one that falls.
func bothWays(kind int) []Field { return []Field{{kind, false}, {kind, true}} }

// fields are all that may be.
func fields() []Field {
	var all []Field
	for _, k := range kinds {
		all = append(all, bothWays(k.kind)...)
	}
	return all
}

// other are the other ones of bytes, if the field falls.
func other(f Field, b []byte) []byte {
	b = slices.Clone(b)
	if f.Falls {
		for i := range b {
			b[i] ^= 0xff
		}
	}
	return b
}

func filled(n int, b byte) []byte { return bytes.Repeat([]byte{b}, n) }

// full is a value each part of which is set, so that those that do not count would be seen.
func full() Value {
	return Value{U: 0x8182838485868788, I: -0x7172737475767778, B: []byte("full"), T: true}
}

// wholes are whole numbers of a width, rising: its edges, and those of the lesser ones.
func wholes(width int) []uint64 {
	most := uint64(math.MaxUint64) >> (64 - 8*width)
	all := []uint64{0, most, most - 1, most / 2, most/2 + 1}
	for i := range 64 {
		for _, n := range []uint64{1<<i - 1, 1 << i, 1<<i + 1, 0x8182838485868788 >> i} {
			if n <= most {
				all = append(all, n)
			}
		}
	}
	slices.Sort(all)
	return slices.Compact(all)
}

// signed are numbers with a sign of a width, rising.
func signed(width int) []int64 {
	var all []int64
	for _, n := range wholes(width) {
		all = append(all, int64(n<<(64-8*width))>>(64-8*width))
	}
	slices.Sort(all)
	return slices.Compact(all)
}

// texts rise: the empty one, such with bytes 0 and 255, such of which one is the beginning of the other, and long ones.
func texts() [][]byte {
	all := [][]byte{{}, []byte("a"), []byte("ab"), []byte("b"), []byte("word"), filled(65535, 7), filled(65536, 7), filled(70000, 0), filled(70000, 255)}
	last := [][]byte{{}}
	for range 3 {
		var longer [][]byte
		for _, s := range last {
			for _, c := range []byte{0, 1, 254, 255} {
				longer = append(longer, append(slices.Clone(s), c))
			}
		}
		all = append(all, longer...)
		last = longer
	}
	slices.SortFunc(all, bytes.Compare)
	return all
}

// rising are values of a kind whose own parts rise. Their other parts differ, and go the other way: they do not count.
func rising(kind int) []Value {
	k := kinds[kind-1]
	var all []Value
	switch k.part {
	case 'U':
		for i, n := range wholes(k.width) {
			all = append(all, Value{n, -int64(i), filled(1, byte(255-i)), i%2 == 0})
		}
	case 'I':
		for i, n := range signed(k.width) {
			all = append(all, Value{uint64(1000 - i), n, filled(1, byte(255-i)), i%2 == 0})
		}
	case 'T':
		all = []Value{{5, 6, []byte("z"), false}, {4, 5, []byte("y"), true}}
	case 'B':
		for i, s := range texts() {
			all = append(all, Value{uint64(1000 - i), -int64(i), s, i%2 == 0})
		}
	}
	return all
}

// bytesOf are a value's bytes by another way.
func bytesOf(f Field, v Value) []byte {
	k := kinds[f.Kind-1]
	var b []byte
	switch k.part {
	case 'U':
		b = new(big.Int).SetUint64(v.U).FillBytes(make([]byte, k.width))
	case 'I':
		half := new(big.Int).Lsh(big.NewInt(1), uint(8*k.width-1))
		b = half.Add(half, big.NewInt(v.I)).FillBytes(make([]byte, k.width))
	case 'T':
		b = []byte{0}
		if v.T {
			b = []byte{1}
		}
	case 'B':
		b = []byte(strings.ReplaceAll(string(v.B), "\x00", "\x00\xff") + "\x00\x00")
	}
	return other(f, b)
}

// bareOf is a value with its own part alone, by another way.
func bareOf(kind int, v Value) Value {
	switch kinds[kind-1].part {
	case 'U':
		v.I, v.B, v.T = 0, nil, false
	case 'I':
		v.U, v.B, v.T = 0, nil, false
	case 'T':
		v.U, v.I, v.B = 0, 0, nil
	case 'B':
		v.U, v.I, v.T = 0, 0, false
	}
	return v
}

// equal tells whether all parts are the same.
func equal(a, b Value) bool {
	return a.U == b.U && a.I == b.I && bytes.Equal(a.B, b.B) && a.T == b.T
}

// nothing tells whether a value has no part at all.
func nothing(v Value) bool { return equal(v, Value{}) }

// few is a list's beginning, for what a test tells.
func few(b []byte) []byte { return b[:min(len(b), 12)] }

// short is a value with its text's beginning alone, for what a test tells.
func short(v Value) Value {
	v.B = few(v.B)
	return v
}

// P5.1

func TestKinds(t *testing.T) {
	for _, k := range kinds {
		if k.kind != k.number {
			t.Errorf("kind %d is %d", k.number, k.kind)
		}
	}
}

func TestCheck(t *testing.T) {
	for _, f := range fields() {
		if e := Check(f); e != api.OK {
			t.Errorf("Check(%v): %v", f, e)
		}
	}
	for _, kind := range noKinds() {
		for _, f := range bothWays(kind) {
			if e := Check(f); e != api.ErrKind {
				t.Errorf("Check(%v): %v", f, e)
			}
		}
	}
}

func TestPut(t *testing.T) {
	for _, c := range []struct {
		kind int
		v    Value
		want []byte
	}{
		{U8, Value{U: 5}, []byte{5}},
		{U8, Value{}, []byte{0}},
		{U8, Value{U: 255}, []byte{255}},
		{U16, Value{U: 258}, []byte{1, 2}},
		{U16, Value{U: 65535}, []byte{255, 255}},
		{U32, Value{U: 0x01020304}, []byte{1, 2, 3, 4}},
		{U32, Value{U: math.MaxUint32}, []byte{255, 255, 255, 255}},
		{U64, Value{U: 0x0102030405060708}, []byte{1, 2, 3, 4, 5, 6, 7, 8}},
		{U64, Value{U: math.MaxUint64}, filled(8, 255)},
		{I8, Value{I: -1}, []byte{127}},
		{I8, Value{}, []byte{128}},
		{I8, Value{I: -128}, []byte{0}},
		{I8, Value{I: 127}, []byte{255}},
		{I16, Value{I: -32768}, []byte{0, 0}},
		{I16, Value{I: 258}, []byte{129, 2}},
		{I16, Value{I: 32767}, []byte{255, 255}},
		{I32, Value{I: math.MinInt32}, filled(4, 0)},
		{I32, Value{I: -1}, []byte{127, 255, 255, 255}},
		{I32, Value{I: math.MaxInt32}, filled(4, 255)},
		{I64, Value{I: math.MinInt64}, filled(8, 0)},
		{I64, Value{I: 1}, []byte{128, 0, 0, 0, 0, 0, 0, 1}},
		{I64, Value{I: math.MaxInt64}, filled(8, 255)},
		{Bool, Value{}, []byte{0}},
		{Bool, Value{T: true}, []byte{1}},
		{Text, Value{}, []byte{0, 0}},
		{Text, Value{B: []byte{}}, []byte{0, 0}},
		{Text, Value{B: []byte("ab")}, []byte{'a', 'b', 0, 0}},
		{Text, Value{B: []byte{0, 7, 255}}, []byte{0, 255, 7, 255, 0, 0}},
	} {
		for _, f := range bothWays(c.kind) {
			if b, e := Put(f, c.v); !bytes.Equal(b, other(f, c.want)) || e != api.OK {
				t.Errorf("Put(%v, %v): %v, %v, not %v", f, c.v, b, e, other(f, c.want))
			}
		}
	}
}

func TestPutOfValues(t *testing.T) {
	for _, f := range fields() {
		for _, v := range rising(f.Kind) {
			want := bytesOf(f, v)
			if b, e := Put(f, v); !bytes.Equal(b, want) || e != api.OK {
				t.Fatalf("Put(%v, %v): %v .., %v, not %v ..", f, short(v), few(b), e, few(want))
			}
		}
	}
}

// Of what is too great no byte is put; the parts that do not count may be as great as they like.
func TestPutOfNumbersOfNoWidth(t *testing.T) {
	for _, c := range []struct {
		kind int
		us   []uint64
		is   []int64
	}{
		{U8, []uint64{256, 257, 65536, 1 << 32, 1 << 63, math.MaxUint64}, nil},
		{U16, []uint64{65536, 65537, 1 << 32, 1 << 63, math.MaxUint64}, nil},
		{U32, []uint64{1 << 32, 1<<32 + 1, 1 << 63, math.MaxUint64}, nil},
		{I8, nil, []int64{-129, 128, 255, 256, -256, 1 << 32, math.MinInt64, math.MaxInt64}},
		{I16, nil, []int64{-32769, 32768, 65536, -65536, 1 << 32, math.MinInt64, math.MaxInt64}},
		{I32, nil, []int64{math.MinInt32 - 1, math.MaxInt32 + 1, 1 << 32, -1 << 32, math.MinInt64, math.MaxInt64}},
	} {
		for _, f := range bothWays(c.kind) {
			for _, n := range c.us {
				if b, e := Put(f, Value{U: n}); len(b) != 0 || e != api.ErrBig {
					t.Errorf("Put(%v, U %d): %v, %v", f, n, b, e)
				}
			}
			for _, n := range c.is {
				if b, e := Put(f, Value{I: n}); len(b) != 0 || e != api.ErrBig {
					t.Errorf("Put(%v, I %d): %v, %v", f, n, b, e)
				}
			}
			great := Value{U: math.MaxUint64, I: math.MinInt64, B: filled(70000, 0), T: true}
			if c.us != nil {
				great.U = 1
			} else {
				great.I = 1
			}
			if b, e := Put(f, great); !bytes.Equal(b, bytesOf(f, great)) || e != api.OK {
				t.Errorf("Put(%v, %v): %v, %v", f, short(great), b, e)
			}
		}
	}
}

func TestTake(t *testing.T) {
	for _, c := range []struct {
		kind   int
		b      []byte
		want   Value
		behind []byte
	}{
		{U8, []byte{5}, Value{U: 5}, nil},
		{U8, []byte{5, 6}, Value{U: 5}, []byte{6}},
		{U16, []byte{1, 2, 255}, Value{U: 258}, []byte{255}},
		{U32, []byte{1, 2, 3, 4, 0, 255}, Value{U: 0x01020304}, []byte{0, 255}},
		{U64, []byte{255, 2, 3, 4, 5, 6, 7, 8, 9}, Value{U: 0xff02030405060708}, []byte{9}},
		{I8, []byte{127, 0}, Value{I: -1}, []byte{0}},
		{I8, []byte{0}, Value{I: -128}, nil},
		{I16, []byte{129, 2, 3}, Value{I: 258}, []byte{3}},
		{I32, []byte{127, 255, 255, 255, 1}, Value{I: -1}, []byte{1}},
		{I64, []byte{0, 0, 0, 0, 0, 0, 0, 0, 1}, Value{I: math.MinInt64}, []byte{1}},
		{Bool, []byte{0}, Value{}, nil},
		{Bool, []byte{1, 2, 255}, Value{T: true}, []byte{2, 255}},
		{Text, []byte{0, 0}, Value{}, nil},
		{Text, []byte{0, 0, 0, 5}, Value{}, []byte{0, 5}},
		{Text, []byte{'a', 0, 255, 'b', 0, 0, 255}, Value{B: []byte("a\x00b")}, []byte{255}},
	} {
		for _, f := range bothWays(c.kind) {
			b := other(f, c.b)
			v, behind, e := Take(f, b)
			if !equal(v, c.want) || !bytes.Equal(behind, other(f, c.behind)) || e != api.OK {
				t.Errorf("Take(%v, %v): %v, %v, %v, not %v, %v", f, b, v, behind, e, c.want, other(f, c.behind))
			}
		}
	}
}

// The bytes behind are those that stand there, and not the other ones, whether the field falls or not.
func TestBytesBehindStay(t *testing.T) {
	if v, behind, e := Take(Field{U8, true}, []byte{250, 1, 2, 3}); v.U != 5 || !bytes.Equal(behind, []byte{1, 2, 3}) || e != api.OK {
		t.Error(v, behind, e)
	}
	if v, behind, e := Take(Field{Text, true}, []byte{158, 255, 255, 1, 0, 255}); string(v.B) != "a" || !bytes.Equal(behind, []byte{1, 0, 255}) || e != api.OK {
		t.Error(v, behind, e)
	}
	if v, behind, e := Take(Field{Bool, true}, []byte{254, 7}); !v.T || !bytes.Equal(behind, []byte{7}) || e != api.OK {
		t.Error(v, behind, e)
	}
}

// wrong looks whether Take tells an error, and nothing beside it, of bytes (of the other ones, if it falls).
func wrong(t *testing.T, kind int, b []byte, want api.Errno) {
	t.Helper()
	for _, f := range bothWays(kind) {
		if v, behind, e := Take(f, other(f, b)); !nothing(v) || len(behind) != 0 || e != want {
			t.Errorf("Take(%v, %v ..), %d bytes: %v, %v, %v, not %v", f, few(other(f, b)), len(b), short(v), few(behind), e, want)
		}
	}
}

// Of every count of bytes, from none on: too few, just as many, and more.
func TestTakeByCount(t *testing.T) {
	all := []byte{5, 1, 254, 2, 253, 3, 252, 4, 251, 5, 250, 6}
	for _, k := range kinds[:8] {
		for count := range len(all) + 1 {
			if count < k.width {
				wrong(t, k.kind, all[:count:count], api.ErrEnd)
				continue
			}
			for _, f := range bothWays(k.kind) {
				v, behind, e := Take(f, all[:count:count])
				if e != api.OK || !bytes.Equal(bytesOf(f, v), all[:k.width]) || !equal(v, bareOf(k.kind, v)) || !bytes.Equal(behind, all[k.width:count]) {
					t.Errorf("Take(%v, %d bytes): %v, %v, %v", f, count, v, behind, e)
				}
			}
		}
	}
}

func TestTakeOfNoBytes(t *testing.T) {
	for _, k := range kinds {
		wrong(t, k.kind, nil, api.ErrEnd)
		wrong(t, k.kind, []byte{}, api.ErrEnd)
	}
}

// A list's spare room is none of its bytes.
func TestSpareRoomIsNotTaken(t *testing.T) {
	for _, f := range fields() {
		b := bytesOf(f, Value{U: 9, I: 9, B: []byte("nine"), T: true})
		room := append(slices.Clone(b), 1, 2, 3)
		for n := range len(b) {
			if v, behind, e := Take(f, room[:n]); !nothing(v) || len(behind) != 0 || e != api.ErrEnd {
				t.Errorf("Take(%v, %v): %v, %v, %v", f, room[:n], v, behind, e)
			}
		}
		if _, behind, e := Take(f, room[:len(b)]); len(behind) != 0 || e != api.OK {
			t.Errorf("Take(%v, %v): %v, %v", f, b, behind, e)
		}
	}
}

// Every first byte that is neither yes nor no, whatever stands behind.
func TestTakeOfWrongBool(t *testing.T) {
	for first := 2; first <= 255; first++ {
		for _, behind := range [][]byte{nil, {0}, {1}, {0, 1, 2}} {
			wrong(t, Bool, append([]byte{byte(first)}, behind...), api.ErrForm)
		}
	}
	// What is yes or no of a field that rises is none of one that falls, and the other way round.
	for _, first := range []byte{0, 1} {
		if v, behind, e := Take(Field{Bool, true}, []byte{first}); !nothing(v) || len(behind) != 0 || e != api.ErrForm {
			t.Errorf("falls: %d: %v, %v, %v", first, v, behind, e)
		}
		if v, behind, e := Take(Field{Bool, false}, []byte{255 - first}); !nothing(v) || len(behind) != 0 || e != api.ErrForm {
			t.Errorf("rises: %d: %v, %v, %v", 255-first, v, behind, e)
		}
	}
}

func TestTakeOfTextsWithoutEnd(t *testing.T) {
	for _, b := range [][]byte{{0}, {1}, {255}, {1, 0}, {0, 255}, {0, 255, 0}, {255, 255}, []byte("word"), []byte("word\x00"), filled(70000, 255), append(filled(70000, 1), 0)} {
		wrong(t, Text, b, api.ErrEnd)
	}
	for _, s := range texts() {
		if len(s) < 1000 {
			b := bytesOf(Field{Text, false}, Value{B: s})
			for n := range len(b) {
				wrong(t, Text, b[:n:n], api.ErrEnd)
			}
		}
	}
}

func TestTakeOfTextsOfNoForm(t *testing.T) {
	for c := 1; c < 255; c++ {
		for _, ahead := range [][]byte{nil, {1}, {255}, {0, 255}, []byte("ab")} {
			for _, behind := range [][]byte{nil, {0}, {0, 0}, {255, 0, 0}} {
				wrong(t, Text, slices.Concat(ahead, []byte{0, byte(c)}, behind), api.ErrForm)
			}
		}
	}
}

// Bytes of a text that rises are none of one that falls: of the other ones the end is missing, or the form.
func TestTakeOfTextsTheOtherWay(t *testing.T) {
	for _, c := range []struct {
		b    []byte
		want api.Errno
	}{
		{[]byte{'a', 0, 0}, api.ErrEnd},
		{[]byte{255, 'a', 0, 0}, api.ErrForm},
		{[]byte{255, 0, 0, 0}, api.ErrEnd},
		{[]byte{0, 0}, api.ErrEnd},
	} {
		if v, behind, e := Take(Field{Text, true}, c.b); !nothing(v) || len(behind) != 0 || e != c.want {
			t.Errorf("Take(falling, %v): %v, %v, %v, not %v", c.b, v, behind, e, c.want)
		}
	}
}

// What is no kind is told of ahead of all else, and with nothing beside it.
func TestNoKind(t *testing.T) {
	for _, kind := range noKinds() {
		for _, f := range bothWays(kind) {
			for _, v := range []Value{{}, full(), {U: math.MaxUint64, I: math.MinInt64}} {
				if b, e := Put(f, v); len(b) != 0 || e != api.ErrKind {
					t.Errorf("Put(%v, %v): %v, %v", f, v, b, e)
				}
				if got := Bare(f, v); !nothing(got) {
					t.Errorf("Bare(%v, %v): %v", f, v, got)
				}
				if n := Cmp(f, v, Value{U: 1, I: 1, B: []byte("b")}); n != 0 {
					t.Errorf("Cmp(%v, %v): %d", f, v, n)
				}
				if !Same(f, v, Value{U: 1, I: 1, B: []byte("b")}) {
					t.Errorf("Same(%v, %v): no", f, v)
				}
			}
			for _, b := range [][]byte{nil, {}, {0}, {1}, {0, 0}, {255, 255}, {0, 5}, filled(9, 1), filled(300, 200)} {
				if v, behind, e := Take(f, b); !nothing(v) || len(behind) != 0 || e != api.ErrKind {
					t.Errorf("Take(%v, %d bytes): %v, %v, %v", f, len(b), v, behind, e)
				}
			}
		}
	}
}

// P5.2

func TestCmp(t *testing.T) {
	for _, c := range []struct {
		kind int
		a, b Value
		want int
	}{
		{U8, Value{U: 1}, Value{U: 2}, -1},
		{U8, Value{U: 2}, Value{U: 2, I: 9, B: []byte("b"), T: true}, 0},
		{U64, Value{U: 1}, Value{U: math.MaxUint64}, -1},
		{U64, Value{U: math.MaxInt64}, Value{U: math.MaxInt64 + 1}, -1},
		{I8, Value{I: -1}, Value{I: 0}, -1},
		{I8, Value{I: -1, U: 8}, Value{I: -1, U: 7}, 0},
		{I64, Value{I: math.MinInt64}, Value{I: math.MaxInt64}, -1},
		{Bool, Value{}, Value{T: true}, -1},
		{Bool, Value{T: true, U: 3}, Value{T: true}, 0},
		{Bool, Value{I: 3}, Value{}, 0},
		{Text, Value{}, Value{B: []byte{0}}, -1},
		{Text, Value{}, Value{B: []byte{}}, 0},
		{Text, Value{B: []byte("a")}, Value{B: []byte("ab")}, -1},
		{Text, Value{B: []byte("a\xff")}, Value{B: []byte("b")}, -1},
		{Text, Value{B: []byte("a"), U: 1, T: true}, Value{B: []byte("a"), I: 1}, 0},
	} {
		for _, f := range bothWays(c.kind) {
			want := c.want
			if f.Falls {
				want = -want
			}
			if n := Cmp(f, c.a, c.b); n != want {
				t.Errorf("Cmp(%v, %v, %v): %d", f, c.a, c.b, n)
			}
			if n := Cmp(f, c.b, c.a); n != -want {
				t.Errorf("Cmp(%v, %v, %v): %d", f, c.b, c.a, n)
			}
			if Same(f, c.a, c.b) != (want == 0) || Same(f, c.b, c.a) != (want == 0) {
				t.Errorf("Same(%v, %v, %v): %v", f, c.a, c.b, Same(f, c.a, c.b))
			}
		}
	}
}

// Each against each other one, by their places.
func TestCmpAndSameOfValues(t *testing.T) {
	for _, f := range fields() {
		all := rising(f.Kind)
		for i, a := range all {
			for j, b := range all {
				want := 0
				switch {
				case i < j != f.Falls && i != j:
					want = -1
				case i != j:
					want = 1
				}
				if n := Cmp(f, a, b); n != want {
					t.Fatalf("Cmp(%v, %v, %v): %d, not %d", f, short(a), short(b), n, want)
				}
				if Same(f, a, b) != (i == j) {
					t.Fatalf("Same(%v, %v, %v): %v", f, short(a), short(b), i != j)
				}
			}
		}
	}
}

// Numbers that are none of that width are in order too, as the numbers that they are.
func TestCmpOfNumbersOfNoWidth(t *testing.T) {
	for _, k := range kinds[:4] {
		for _, c := range [][2]uint64{{1, 257}, {256, 257}, {256, 512}, {2, 1<<32 + 1}, {1 << 63, math.MaxUint64}} {
			a, b := Value{U: c[0]}, Value{U: c[1]}
			if n, m := Cmp(Field{k.kind, false}, a, b), Cmp(Field{k.kind, true}, a, b); n != -1 || m != 1 || Same(Field{k.kind, false}, a, b) {
				t.Errorf("kind %d: %v: %d, %d", k.kind, c, n, m)
			}
		}
	}
	for _, k := range kinds[4:8] {
		for _, c := range [][2]int64{{1, 257}, {-257, -1}, {-32769, 32768}, {127, 128}, {-1 << 32, -1}, {math.MinInt64, math.MaxInt64}} {
			a, b := Value{I: c[0]}, Value{I: c[1]}
			if n, m := Cmp(Field{k.kind, false}, a, b), Cmp(Field{k.kind, true}, a, b); n != -1 || m != 1 || Same(Field{k.kind, true}, a, b) {
				t.Errorf("kind %d: %v: %d, %d", k.kind, c, n, m)
			}
		}
	}
}

func TestBare(t *testing.T) {
	v := full()
	for _, c := range []struct {
		want  Value
		kinds []int
	}{
		{Value{U: v.U}, []int{U8, U16, U32, U64}},
		{Value{I: v.I}, []int{I8, I16, I32, I64}},
		{Value{T: true}, []int{Bool}},
		{Value{B: []byte("full")}, []int{Text}},
	} {
		for _, kind := range c.kinds {
			for _, f := range bothWays(kind) {
				if got := Bare(f, v); !equal(got, c.want) {
					t.Errorf("Bare(%v): %v", f, got)
				}
			}
		}
	}
	for _, f := range fields() {
		for _, v := range append(rising(f.Kind), Value{}) {
			bare := Bare(f, v)
			if !equal(bare, bareOf(f.Kind, v)) || !Same(f, bare, v) || !equal(Bare(f, bare), bare) {
				t.Fatalf("Bare(%v, %v): %v", f, short(v), short(bare))
			}
		}
	}
}

// P5.3

func TestBytesAreInOrderAsValues(t *testing.T) {
	for _, f := range fields() {
		all := rising(f.Kind)
		put := make([][]byte, len(all))
		for i, v := range all {
			var e api.Errno
			if put[i], e = Put(f, v); e != api.OK {
				t.Fatalf("Put(%v, %v): %v", f, short(v), e)
			}
		}
		for i := range all {
			for j := range all {
				if got, want := bytes.Compare(put[i], put[j]), Cmp(f, all[i], all[j]); got != want || (want == 0) != (i == j) {
					t.Fatalf("%v: %v is %v .., %v is %v ..", f, short(all[i]), few(put[i]), short(all[j]), few(put[j]))
				}
				if i != j && bytes.HasPrefix(put[i], put[j]) {
					t.Fatalf("%v: %v .. begins with %v ..", f, few(put[i]), few(put[j]))
				}
			}
		}
	}
}

// Of the two lesser widths, every number and the one above it.
func TestBytesOfAllNumbersGoOneWay(t *testing.T) {
	for _, kind := range []int{U8, U16, I8, I16} {
		k := kinds[kind-1]
		for _, f := range bothWays(kind) {
			last := []byte(nil)
			for n := range 1 << (8 * k.width) {
				b, e := Put(f, Value{U: uint64(n), I: int64(n) - 1<<(8*k.width-1)})
				want := 1
				if f.Falls {
					want = -1
				}
				if e != api.OK || last != nil && bytes.Compare(b, last) != want {
					t.Fatalf("%v: number %d is %v, %v, behind %v", f, n, b, e, last)
				}
				last = b
			}
		}
	}
}

// P5.4

func TestWhatIsPutIsTaken(t *testing.T) {
	behinds := [][]byte{nil, {}, {0}, {255}, {0, 0}, {255, 255}, {0, 255, 0, 0}, {255, 0, 255, 255}, {0, 5}, {1, 2, 3}, filled(9, 7), filled(70000, 0)}
	for _, f := range fields() {
		for _, v := range rising(f.Kind) {
			b, _ := Put(f, v)
			for i, behind := range behinds {
				if len(b) > 1000 && i%4 != 3 {
					continue
				}
				got, others, e := Take(f, slices.Concat(b, behind))
				if !equal(got, bareOf(f.Kind, v)) || !Same(f, got, v) || !bytes.Equal(others, behind) || e != api.OK {
					t.Fatalf("%v: %v with %v .. behind: %v, %v .., %v", f, short(v), few(behind), short(got), few(others), e)
				}
			}
		}
	}
}

// One behind the other, of all fields: each is taken from what the one ahead of it left.
func TestManyBehindEachOtherAreTaken(t *testing.T) {
	var all []byte
	v := Value{U: 77, I: -77, B: []byte("seven\x00seven"), T: true}
	for _, f := range fields() {
		b, _ := Put(f, v)
		all = append(all, b...)
	}
	for _, f := range fields() {
		got, behind, e := Take(f, all)
		if !equal(got, bareOf(f.Kind, v)) || e != api.OK {
			t.Fatalf("%v: %v, %v", f, got, e)
		}
		all = behind
	}
	if len(all) != 0 {
		t.Error("left:", all)
	}
}

// And the other way round: bytes that are taken are put as the same.
func TestWhatIsTakenIsPut(t *testing.T) {
	var lists [][]byte
	for x := range 256 {
		lists = append(lists, []byte{byte(x), 0, 0}, []byte{byte(x), 255, 255}, append([]byte{byte(x)}, filled(8, byte(x))...))
	}
	for _, f := range fields() {
		for _, b := range lists {
			v, behind, e := Take(f, b)
			if e != api.OK {
				continue
			}
			if again, pe := Put(f, v); pe != api.OK || !bytes.Equal(slices.Concat(again, behind), b) {
				t.Fatalf("%v: %v is %v, which is %v, %v", f, b, v, again, pe)
			}
		}
	}
}

// The rules

// answers are all lists that the calls answer of a text: its bytes, what is taken out of bytes, and what is bare.
func answers(f Field, s, b []byte) [][]byte {
	put, _ := Put(f, Value{B: s})
	v, behind, _ := Take(f, b)
	return [][]byte{put, v.B, behind, Bare(f, Value{B: s}).B}
}

// R4: nothing is written to what was handed in, and no answer lies in it, not even in its spare room, nor in another one.
func TestArgumentsStay(t *testing.T) {
	for _, f := range fields() {
		text := []byte("ab\x00c and more")
		room := append(bytesOf(f, Value{U: 5, I: 5, B: []byte("xyz"), T: true}), 1, 2, 3, 4, 5)
		wasText, wasRoom := slices.Clone(text), slices.Clone(room)
		n := len(room) - 2
		want := answers(f, slices.Clone(text[:4]), slices.Clone(room[:n]))
		Cmp(f, Value{B: text[:4]}, Value{B: room[:n]})
		Same(f, Value{B: text[:4]}, Value{B: room[:n]})
		all := answers(f, text[:4], room[:n])
		for i := range all {
			if !bytes.Equal(all[i], want[i]) {
				t.Fatalf("%v: answer %d: %v, not %v", f, i, all[i], want[i])
			}
			clear(all[i][:cap(all[i])])
			_ = append(all[i], 9, 9, 9)
			if !bytes.Equal(text, wasText) || !bytes.Equal(room, wasRoom) {
				t.Fatalf("%v: answer %d shares memory with what was handed in", f, i)
			}
			for j := i + 1; j < len(all); j++ {
				if !bytes.Equal(all[j], want[j]) {
					t.Fatalf("%v: answer %d shares memory with answer %d", f, i, j)
				}
			}
		}
		all = answers(f, text[:4], room[:n])
		clear(text)
		clear(room)
		for i := range all {
			if !bytes.Equal(all[i], want[i]) {
				t.Fatalf("%v: answer %d changes with what was handed in: %v", f, i, all[i])
			}
		}
	}
}

// R3, R4: answers are new ones each time, and the same ones.
func TestAnswersAreNew(t *testing.T) {
	for _, f := range fields() {
		s, b := []byte("ab"), append(bytesOf(f, Value{B: []byte("xy")}), 1, 2)
		first, second := answers(f, s, b), answers(f, s, b)
		for i := range first {
			want := slices.Clone(second[i])
			clear(first[i][:cap(first[i])])
			if !bytes.Equal(second[i], want) || !bytes.Equal(answers(f, s, b)[i], want) {
				t.Errorf("%v: two answers share memory: %d", f, i)
			}
		}
	}
}

// R5: nil and empty lists are the same.
func TestNilIsEmpty(t *testing.T) {
	for _, f := range append(fields(), Field{0, false}, Field{11, true}) {
		a, ae := Put(f, Value{B: nil})
		b, be := Put(f, Value{B: []byte{}})
		if !bytes.Equal(a, b) || ae != be {
			t.Errorf("Put(%v): %v, %v and %v, %v", f, a, ae, b, be)
		}
		_, _, ae = Take(f, nil)
		_, _, be = Take(f, []byte{})
		if ae != be {
			t.Errorf("Take(%v): %v and %v", f, ae, be)
		}
		if Cmp(f, Value{B: nil}, Value{B: []byte{}}) != 0 || !Same(f, Value{B: []byte{}}, Value{B: nil}) {
			t.Errorf("Cmp(%v): not the same", f)
		}
		if len(Bare(f, Value{B: []byte{}}).B) != 0 || len(Bare(f, Value{}).B) != 0 {
			t.Errorf("Bare(%v): bytes", f)
		}
	}
}
