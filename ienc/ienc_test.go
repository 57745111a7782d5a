package ienc

import (
	"bytes"
	"cmp"
	"encoding/binary"
	"math"
	"math/big"
	"math/bits"
	"slices"
	"testing"

	"spunyarn/api"
	"spunyarn/uenc"
)

// ranges are all the widths that there are, each with its least and its greatest number, written out.
var ranges = []struct {
	width       int
	least, most int64
}{
	{1, -128, 127},
	{2, -32768, 32767},
	{4, -2147483648, 2147483647},
	{8, -9223372036854775808, 9223372036854775807},
}

// noWidths are numbers that are none: near to the widths, of the same low bits, of the other sign, and very great ones.
func noWidths() []int {
	wrong := []int{0, 3, 5, 6, 7, 9, 10, 12, 15, 16, 24, 31, 32, 33, 63, 64, 65, 128, 255, 256, 65536, math.MaxInt32, math.MinInt32, math.MaxInt - 1, math.MaxInt, math.MinInt}
	for _, r := range ranges {
		wrong = append(wrong, -r.width, 256+r.width, 65536+r.width, 1<<(bits.UintSize/2)+r.width, math.MinInt+r.width, math.MaxInt-r.width)
	}
	return wrong
}

// fewNumbers are numbers from the least to the greatest one: the edges of all widths, each single bit, and such as have another byte at every place; rising.
func fewNumbers(least, most int64) []int64 {
	all := []int64{0, 1, 2, 258, -1, -2, -258, 0x0102030405060708, -0x0102030405060708, 0x00ff00ff00ff00ff, -0x00ff00ff00ff00ff, math.MinInt64, math.MinInt64 + 1, math.MaxInt64 - 1, math.MaxInt64}
	for _, r := range ranges[:3] {
		all = append(all, r.least-1, r.least, r.least+1, r.most-1, r.most, r.most+1, 2*r.most+1, 2*r.least)
	}
	for i := range 63 {
		all = append(all, 1<<i, 1<<i-1, 1<<i+1, -1<<i, -1<<i-1, -1<<i+1)
	}
	var fine []int64
	for _, n := range all {
		if least <= n && n <= most {
			fine = append(fine, n)
		}
	}
	slices.Sort(fine)
	return slices.Compact(fine)
}

// bytesOf are a number's bytes by another way: the sum that the chapter tells, of numbers without an end.
func bytesOf(width int, n int64) []byte {
	half := new(big.Int).Lsh(big.NewInt(1), uint(8*width-1))
	return new(big.Int).Add(big.NewInt(n), half).FillBytes(make([]byte, width))
}

// P3.1

func TestLeastAndMost(t *testing.T) {
	for _, r := range ranges {
		if n, e := Least(r.width); n != r.least || e != api.OK {
			t.Errorf("Least(%d): %d, %v, not %d", r.width, n, e, r.least)
		}
		if n, e := Most(r.width); n != r.most || e != api.OK {
			t.Errorf("Most(%d): %d, %v, not %d", r.width, n, e, r.most)
		}
	}
}

func TestLeastAndMostOfNoWidth(t *testing.T) {
	for _, width := range noWidths() {
		if n, e := Least(width); n != 0 || e != api.ErrArg {
			t.Errorf("Least(%d): %d, %v", width, n, e)
		}
		if n, e := Most(width); n != 0 || e != api.ErrArg {
			t.Errorf("Most(%d): %d, %v", width, n, e)
		}
	}
}

func TestPut(t *testing.T) {
	for _, c := range []struct {
		width int
		n     int64
		want  []byte
	}{
		{1, -128, []byte{0}},
		{1, -127, []byte{1}},
		{1, -1, []byte{127}},
		{1, 0, []byte{128}},
		{1, 1, []byte{129}},
		{1, 127, []byte{255}},
		{2, -32768, []byte{0, 0}},
		{2, -258, []byte{126, 254}},
		{2, -1, []byte{127, 255}},
		{2, 0, []byte{128, 0}},
		{2, 1, []byte{128, 1}},
		{2, 258, []byte{129, 2}},
		{2, 32767, []byte{255, 255}},
		{4, -2147483648, []byte{0, 0, 0, 0}},
		{4, -1, []byte{127, 255, 255, 255}},
		{4, 0, []byte{128, 0, 0, 0}},
		{4, 1, []byte{128, 0, 0, 1}},
		{4, 0x01020304, []byte{129, 2, 3, 4}},
		{4, 2147483647, []byte{255, 255, 255, 255}},
		{8, math.MinInt64, []byte{0, 0, 0, 0, 0, 0, 0, 0}},
		{8, math.MinInt64 + 1, []byte{0, 0, 0, 0, 0, 0, 0, 1}},
		{8, -1, []byte{127, 255, 255, 255, 255, 255, 255, 255}},
		{8, 0, []byte{128, 0, 0, 0, 0, 0, 0, 0}},
		{8, 1, []byte{128, 0, 0, 0, 0, 0, 0, 1}},
		{8, 0x0102030405060708, []byte{129, 2, 3, 4, 5, 6, 7, 8}},
		{8, math.MaxInt64, []byte{255, 255, 255, 255, 255, 255, 255, 255}},
	} {
		if b, e := Put(c.width, c.n); e != api.OK || !bytes.Equal(b, c.want) {
			t.Errorf("Put(%d, %d): %v, %v, not %v", c.width, c.n, b, e, c.want)
		}
	}
}

func TestPutFewNumbers(t *testing.T) {
	for _, r := range ranges {
		for _, n := range fewNumbers(r.least, r.most) {
			if b, e := Put(r.width, n); e != api.OK || !bytes.Equal(b, bytesOf(r.width, n)) {
				t.Fatalf("Put(%d, %d): %v, %v, not %v", r.width, n, b, e, bytesOf(r.width, n))
			}
		}
	}
}

// What is beyond a width on either side, from the first one on.
func TestPutBeyondTheWidth(t *testing.T) {
	for _, r := range ranges[:3] {
		beyond := []int64{r.least - 1, r.least - 2, 2 * r.least, 2*r.least - 1, r.most + 1, r.most + 2, 2*r.most + 1, 2*r.most + 2}
		for _, n := range fewNumbers(math.MinInt64, math.MaxInt64) {
			if n < r.least || n > r.most {
				beyond = append(beyond, n)
			}
		}
		for _, n := range beyond {
			if b, e := Put(r.width, n); len(b) != 0 || e != api.ErrBig {
				t.Errorf("Put(%d, %d): %v, %v", r.width, n, b, e)
			}
		}
	}
}

// What is no width is told of, whatever the number is.
func TestPutOfNoWidth(t *testing.T) {
	for _, width := range noWidths() {
		for _, n := range []int64{math.MinInt64, -129, -128, -1, 0, 1, 127, 128, math.MaxInt32, math.MaxInt64} {
			if b, e := Put(width, n); len(b) != 0 || e != api.ErrArg {
				t.Errorf("Put(%d, %d): %v, %v", width, n, b, e)
			}
		}
	}
}

func TestTake(t *testing.T) {
	for _, c := range []struct {
		width  int
		b      []byte
		n      int64
		others []byte
	}{
		{1, []byte{0}, -128, nil},
		{1, []byte{127}, -1, nil},
		{1, []byte{128}, 0, nil},
		{1, []byte{129, 1}, 1, []byte{1}},
		{1, []byte{255}, 127, nil},
		{2, []byte{0, 0}, -32768, nil},
		{2, []byte{127, 255, 128}, -1, []byte{128}},
		{2, []byte{128, 0, 0}, 0, []byte{0}},
		{2, []byte{255, 255, 255, 255}, 32767, []byte{255, 255}},
		{4, []byte{0, 0, 0, 0}, -2147483648, nil},
		{4, []byte{127, 255, 255, 255}, -1, nil},
		{4, []byte{128, 0, 0, 1, 9, 8, 7}, 1, []byte{9, 8, 7}},
		{4, []byte{255, 255, 255, 255}, 2147483647, nil},
		{8, []byte{0, 0, 0, 0, 0, 0, 0, 0, 1}, math.MinInt64, []byte{1}},
		{8, []byte{127, 255, 255, 255, 255, 255, 255, 255}, -1, nil},
		{8, []byte{128, 0, 0, 0, 0, 0, 0, 0}, 0, nil},
		{8, []byte{129, 2, 3, 4, 5, 6, 7, 8}, 0x0102030405060708, nil},
		{8, []byte{255, 255, 255, 255, 255, 255, 255, 255}, math.MaxInt64, nil},
		{8, bytes.Repeat([]byte{254}, 70000), 0x7efefefefefefefe, bytes.Repeat([]byte{254}, 69992)},
	} {
		n, others, e := Take(c.width, c.b)
		if n != c.n || !bytes.Equal(others, c.others) || e != api.OK {
			t.Errorf("Take(%d, %d bytes): %d, %d bytes, %v, not %d", c.width, len(c.b), n, len(others), e, c.n)
		}
	}
}

// Of every count of bytes, from none on: too few, just as many, and more.
func TestTakeByCount(t *testing.T) {
	all := []byte{5, 1, 254, 2, 253, 3, 252, 4, 251, 5, 250, 6, 249, 7, 248, 8, 247}
	for _, r := range ranges {
		whole := binary.BigEndian.Uint64(append(make([]byte, 8-r.width), all[:r.width]...))
		want := int64(whole) + r.least
		for count := range len(all) + 1 {
			n, others, e := Take(r.width, all[:count:count])
			if count < r.width {
				if n != 0 || len(others) != 0 || e != api.ErrEnd {
					t.Errorf("Take(%d, %d bytes): %d, %v, %v", r.width, count, n, others, e)
				}
			} else if n != want || !bytes.Equal(others, all[r.width:count]) || e != api.OK {
				t.Errorf("Take(%d, %d bytes): %d, %v, %v, not %d", r.width, count, n, others, e, want)
			}
		}
	}
}

// A list's spare room is none of its bytes.
func TestSpareRoomIsNotTaken(t *testing.T) {
	room := []byte{1, 2, 3, 4, 5, 6, 7, 8, 9}
	for _, r := range ranges {
		if n, others, e := Take(r.width, room[:r.width-1]); n != 0 || len(others) != 0 || e != api.ErrEnd {
			t.Errorf("Take(%d): %d, %v, %v", r.width, n, others, e)
		}
	}
	if v, others, e := TakeBool(room[:0]); v || len(others) != 0 || e != api.ErrEnd {
		t.Errorf("TakeBool: %v, %v, %v", v, others, e)
	}
}

// What is no width is told of, however many bytes there are.
func TestTakeOfNoWidth(t *testing.T) {
	for _, width := range noWidths() {
		for _, count := range []int{0, 1, 2, 3, 4, 7, 8, 9, 300} {
			if n, others, e := Take(width, bytes.Repeat([]byte{5}, count)); n != 0 || len(others) != 0 || e != api.ErrArg {
				t.Errorf("Take(%d, %d bytes): %d, %v, %v", width, count, n, others, e)
			}
		}
	}
}

// The errors, and the others, are layer 2's.
func TestTakeErrsAsLayer2(t *testing.T) {
	for _, width := range append(noWidths(), 1, 2, 4, 8) {
		for count := range 12 {
			b := bytes.Repeat([]byte{200}, count)
			_, wantOthers, want := uenc.Take(width, b)
			if _, others, e := Take(width, b); e != want || !bytes.Equal(others, wantOthers) {
				t.Errorf("Take(%d, %d bytes): %v, %v, not %v, %v", width, count, others, e, wantOthers, want)
			}
		}
	}
}

func TestCmp(t *testing.T) {
	for _, c := range []struct {
		a, b int64
		want int
	}{
		{0, 0, 0},
		{-1, -1, 0},
		{-1, 0, -1},
		{-1, 1, -1},
		{0, 1, -1},
		{-2, -1, -1},
		{-129, -128, -1},
		{127, 128, -1},
		{1, 1 << 32, -1},
		{-1 << 32, -1, -1},
		{math.MinInt64, math.MaxInt64, -1},
		{math.MinInt64, 1, -1},
		{-2, math.MaxInt64, -1},
		{math.MinInt64, math.MinInt64 + 1, -1},
		{math.MinInt64, math.MinInt64, 0},
		{math.MaxInt64, math.MaxInt64, 0},
	} {
		if got := Cmp(c.a, c.b); got != c.want {
			t.Errorf("Cmp(%d, %d): %d", c.a, c.b, got)
		}
		if got := Cmp(c.b, c.a); got != -c.want {
			t.Errorf("Cmp(%d, %d): %d", c.b, c.a, got)
		}
	}
	few := fewNumbers(math.MinInt64, math.MaxInt64)
	for i, a := range few {
		for j, b := range few {
			if got, want := Cmp(a, b), cmp.Compare(i, j); got != want {
				t.Fatalf("Cmp(%d, %d): %d, not %d", a, b, got, want)
			}
		}
	}
}

// P3.2

func TestPutBool(t *testing.T) {
	if b := PutBool(true); !bytes.Equal(b, []byte{1}) {
		t.Error("yes:", b)
	}
	if b := PutBool(false); !bytes.Equal(b, []byte{0}) {
		t.Error("no:", b)
	}
}

func TestTakeBool(t *testing.T) {
	for _, c := range []struct {
		b      []byte
		want   bool
		others []byte
	}{
		{[]byte{0}, false, nil},
		{[]byte{1}, true, nil},
		{[]byte{0, 1}, false, []byte{1}},
		{[]byte{1, 0}, true, []byte{0}},
		{[]byte{0, 2}, false, []byte{2}},
		{[]byte{1, 255, 254}, true, []byte{255, 254}},
		{bytes.Repeat([]byte{1}, 70000), true, bytes.Repeat([]byte{1}, 69999)},
	} {
		v, others, e := TakeBool(c.b)
		if v != c.want || !bytes.Equal(others, c.others) || e != api.OK {
			t.Errorf("TakeBool(%d bytes): %v, %d bytes, %v", len(c.b), v, len(others), e)
		}
	}
}

func TestTakeBoolOfNoByte(t *testing.T) {
	for _, b := range [][]byte{nil, {}} {
		if v, others, e := TakeBool(b); v || len(others) != 0 || e != api.ErrEnd {
			t.Errorf("TakeBool(%v): %v, %v, %v", b, v, others, e)
		}
	}
}

// Every first byte that is neither 0 nor 1, whatever stands behind.
func TestTakeBoolOfWrongBytes(t *testing.T) {
	for first := 2; first <= 255; first++ {
		for _, behind := range [][]byte{nil, {0}, {1}, {0, 1, 2}} {
			b := append([]byte{byte(first)}, behind...)
			if v, others, e := TakeBool(b); v || len(others) != 0 || e != api.ErrForm {
				t.Errorf("TakeBool(%v): %v, %v, %v", b, v, others, e)
			}
		}
	}
}

// P3.3

func TestBytesAreInOrderAsNumbers(t *testing.T) {
	for _, r := range ranges {
		few := fewNumbers(r.least, r.most)
		for _, a := range few {
			for _, b := range few {
				x, xe := Put(r.width, a)
				y, ye := Put(r.width, b)
				if xe != api.OK || ye != api.OK || bytes.Compare(x, y) != Cmp(a, b) {
					t.Fatalf("width %d: %d is %v, %d is %v", r.width, a, x, b, y)
				}
			}
		}
	}
}

// Of the two lesser widths, every number and the one above it.
func TestBytesOfAllNumbersRise(t *testing.T) {
	for _, r := range ranges[:2] {
		last, e := Put(r.width, r.least)
		for n := r.least; n < r.most; n++ {
			if e != api.OK || !bytes.Equal(last, bytesOf(r.width, n)) {
				t.Fatalf("Put(%d, %d): %v, %v", r.width, n, last, e)
			}
			var next []byte
			next, e = Put(r.width, n+1)
			if e != api.OK || bytes.Compare(last, next) != -1 {
				t.Fatalf("width %d: %d is %v, the next one %v, %v", r.width, n, last, next, e)
			}
			last = next
		}
	}
}

// P3.4

func TestWhatIsPutIsTaken(t *testing.T) {
	behinds := [][]byte{nil, {}, {0}, {255}, {1, 2, 3}, bytes.Repeat([]byte{255}, 8), bytes.Repeat([]byte{0}, 9), bytes.Repeat([]byte{7}, 70000)}
	for _, r := range ranges {
		for _, n := range fewNumbers(r.least, r.most) {
			b, e := Put(r.width, n)
			if e != api.OK || len(b) != r.width {
				t.Fatalf("Put(%d, %d): %v, %v", r.width, n, b, e)
			}
			for _, behind := range behinds {
				got, others, e := Take(r.width, slices.Concat(b, behind))
				if got != n || !bytes.Equal(others, behind) || e != api.OK {
					t.Fatalf("Take(%d, %v and %d bytes): %d, %d bytes, %v, not %d", r.width, b, len(behind), got, len(others), e, n)
				}
			}
		}
	}
	for _, v := range []bool{false, true} {
		for _, behind := range behinds {
			got, others, e := TakeBool(slices.Concat(PutBool(v), behind))
			if got != v || !bytes.Equal(others, behind) || e != api.OK {
				t.Fatalf("TakeBool(%v and %d bytes): %v, %d bytes, %v", v, len(behind), got, len(others), e)
			}
		}
	}
}

// One behind the other, of all widths, with yes and no between: each is taken from what the one ahead of it left.
func TestManyBehindEachOtherAreTaken(t *testing.T) {
	var all []byte
	for _, r := range ranges {
		b, _ := Put(r.width, r.least+1)
		all = slices.Concat(all, b, PutBool(r.width > 2))
	}
	for _, r := range ranges {
		n, others, e := Take(r.width, all)
		if n != r.least+1 || e != api.OK {
			t.Fatalf("Take(%d): %d, %v", r.width, n, e)
		}
		v, others, e := TakeBool(others)
		if v != (r.width > 2) || e != api.OK {
			t.Fatalf("TakeBool behind width %d: %v, %v", r.width, v, e)
		}
		all = others
	}
	if len(all) != 0 {
		t.Error("left:", all)
	}
}

// And the other way round: bytes that are taken are those of the number.
func TestWhatIsTakenWasPut(t *testing.T) {
	for _, r := range ranges {
		for _, x := range []byte{0, 1, 127, 128, 254, 255} {
			for place := range r.width {
				b := bytes.Repeat([]byte{x}, r.width)
				b[place] = 5
				n, _, e := Take(r.width, b)
				if again, pe := Put(r.width, n); e != api.OK || pe != api.OK || !bytes.Equal(again, b) {
					t.Fatalf("width %d: %v is %d, which is %v", r.width, b, n, again)
				}
			}
		}
	}
}

// The rules

// taken are the bytes behind what is taken, of each call that takes: a number of every width, and yes or no.
func taken(b []byte) [][]byte {
	var all [][]byte
	for _, r := range ranges {
		_, others, _ := Take(r.width, b)
		all = append(all, others)
	}
	_, others, _ := TakeBool(b)
	return append(all, others)
}

// R4: nothing is written to what was handed in, and no answer lies in it, not even in its spare room.
func TestArgumentsStay(t *testing.T) {
	room := []byte{1, 2, 3, 4, 5, 6, 7, 8, 9, 10, 11, 12}
	was := slices.Clone(room)
	for count := range 11 {
		for _, others := range taken(room[:count]) {
			clear(others)
			_ = append(others, 0, 0, 0)
			if !bytes.Equal(room, was) {
				t.Fatalf("%d bytes: an answer shares memory with what was handed in: %v", count, room)
			}
		}
		all := taken(room[:count])
		clear(room)
		for _, others := range all {
			if !bytes.Equal(others, was[count-len(others):count]) {
				t.Fatalf("%d bytes: what was taken changes with what was handed in: %v", count, others)
			}
		}
		copy(room, was)
	}
}

// R3, R4: answers are new ones each time.
func TestAnswersAreNew(t *testing.T) {
	for _, r := range ranges {
		a, _ := Put(r.width, 1)
		b, _ := Put(r.width, 1)
		clear(a)
		if b[r.width-1]&1 != 1 {
			t.Error("two answers of Put share memory")
		}
	}
	for _, v := range []bool{false, true} {
		a, b := PutBool(v), PutBool(v)
		a[0] = 9
		if b[0] == 9 || PutBool(v)[0] == 9 {
			t.Error("two answers of PutBool share memory")
		}
	}
	all := []byte{1, 3, 3, 3, 3, 3, 3, 3, 3, 3}
	first, second := taken(all), taken(all)
	for i := range first {
		first[i][0] = 9
		if second[i][0] != 3 {
			t.Error("two answers share memory:", i)
		}
	}
}

// R5: nil and empty lists are the same.
func TestNilIsEmpty(t *testing.T) {
	for _, width := range []int{-1, 0, 1, 2, 3, 4, 8} {
		n, a, e := Take(width, nil)
		m, b, f := Take(width, []byte{})
		if n != m || len(a) != len(b) || e != f {
			t.Errorf("Take(%d): %d, %v, %v and %d, %v, %v", width, n, a, e, m, b, f)
		}
	}
}
