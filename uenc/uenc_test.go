package uenc

import (
	"bytes"
	"cmp"
	"encoding/binary"
	"math"
	"math/bits"
	"slices"
	"testing"

	"spunyarn/api"
)

// widths are all that there are, each with its greatest number, written out.
var widths = []struct {
	width int
	most  uint64
}{
	{1, 0xff},
	{2, 0xffff},
	{4, 0xffffffff},
	{8, 0xffffffffffffffff},
}

// noWidths are numbers that are none: near to the widths, of the same low bits, of the other sign, and very great ones.
func noWidths() []int {
	wrong := []int{0, 3, 5, 6, 7, 9, 10, 12, 15, 16, 24, 31, 32, 33, 63, 64, 65, 128, 255, 256, 65536, math.MaxInt32, math.MinInt32, math.MaxInt - 1, math.MaxInt, math.MinInt}
	for _, w := range widths {
		wrong = append(wrong, -w.width, 256+w.width, 65536+w.width, 1<<(bits.UintSize/2)+w.width, math.MinInt+w.width, math.MaxInt-w.width)
	}
	return wrong
}

// fewNumbers are numbers of a width: the edges of it and of the lesser ones, each single bit, and such as have another byte at every place.
func fewNumbers(most uint64) []uint64 {
	all := []uint64{0, 1, 2, 258, 0x0102030405060708, 0xfedcba9876543210, 0x8000000000000001, 0x00ff00ff00ff00ff, 0xff00ff00ff00ff00}
	for _, w := range widths {
		all = append(all, w.most-1, w.most, w.most/2, w.most/2+1, w.most+1, w.most+2)
	}
	for i := range 64 {
		all = append(all, 1<<i, 1<<i-1, 1<<i+1)
	}
	var fine []uint64
	for _, n := range all {
		fine = append(fine, n&most)
	}
	slices.Sort(fine)
	return slices.Compact(fine)
}

// bytesOf are a number's bytes by another way.
func bytesOf(width int, n uint64) []byte {
	return binary.BigEndian.AppendUint64(nil, n)[8-width:]
}

// P2.1

func TestMost(t *testing.T) {
	for _, w := range widths {
		if n, e := Most(w.width); n != w.most || e != api.OK {
			t.Errorf("Most(%d): %d, %v, not %d", w.width, n, e, w.most)
		}
	}
}

func TestMostOfNoWidth(t *testing.T) {
	for _, width := range noWidths() {
		if n, e := Most(width); n != 0 || e != api.ErrArg {
			t.Errorf("Most(%d): %d, %v", width, n, e)
		}
	}
}

func TestPut(t *testing.T) {
	for _, c := range []struct {
		width int
		n     uint64
		want  []byte
	}{
		{1, 0, []byte{0}},
		{1, 1, []byte{1}},
		{1, 127, []byte{127}},
		{1, 128, []byte{128}},
		{1, 255, []byte{255}},
		{2, 0, []byte{0, 0}},
		{2, 255, []byte{0, 255}},
		{2, 256, []byte{1, 0}},
		{2, 258, []byte{1, 2}},
		{2, 65535, []byte{255, 255}},
		{4, 0, []byte{0, 0, 0, 0}},
		{4, 65536, []byte{0, 1, 0, 0}},
		{4, 0x01020304, []byte{1, 2, 3, 4}},
		{4, 4294967295, []byte{255, 255, 255, 255}},
		{8, 0, []byte{0, 0, 0, 0, 0, 0, 0, 0}},
		{8, 4294967296, []byte{0, 0, 0, 1, 0, 0, 0, 0}},
		{8, 0x0102030405060708, []byte{1, 2, 3, 4, 5, 6, 7, 8}},
		{8, 1 << 63, []byte{128, 0, 0, 0, 0, 0, 0, 0}},
		{8, 18446744073709551615, []byte{255, 255, 255, 255, 255, 255, 255, 255}},
	} {
		if b, e := Put(c.width, c.n); e != api.OK || !bytes.Equal(b, c.want) {
			t.Errorf("Put(%d, %d): %v, %v, not %v", c.width, c.n, b, e, c.want)
		}
	}
}

func TestPutFewNumbers(t *testing.T) {
	for _, w := range widths {
		for _, n := range fewNumbers(w.most) {
			if b, e := Put(w.width, n); e != api.OK || !bytes.Equal(b, bytesOf(w.width, n)) {
				t.Fatalf("Put(%d, %d): %v, %v", w.width, n, b, e)
			}
		}
	}
}

func TestPutOfTooGreatOnes(t *testing.T) {
	for _, w := range widths[:3] {
		for _, n := range []uint64{w.most + 1, w.most + 2, 2*w.most + 1, 2*w.most + 2, 1 << 40, 1 << 63, 1<<63 + 1, math.MaxUint64 - 1, math.MaxUint64} {
			if b, e := Put(w.width, n); len(b) != 0 || e != api.ErrBig {
				t.Errorf("Put(%d, %d): %v, %v", w.width, n, b, e)
			}
		}
	}
}

// What is no width is told of, whatever the number is.
func TestPutOfNoWidth(t *testing.T) {
	for _, width := range noWidths() {
		for _, n := range []uint64{0, 1, 255, 256, math.MaxUint32, 1 << 63, math.MaxUint64} {
			if b, e := Put(width, n); len(b) != 0 || e != api.ErrArg {
				t.Errorf("Put(%d, %d): %v, %v", width, n, b, e)
			}
		}
	}
}

// P2.2

func TestTakeAndGet(t *testing.T) {
	for _, c := range []struct {
		width  int
		b      []byte
		n      uint64
		others []byte
	}{
		{1, []byte{0}, 0, nil},
		{1, []byte{255}, 255, nil},
		{1, []byte{128, 1}, 128, []byte{1}},
		{2, []byte{1, 2}, 258, nil},
		{2, []byte{2, 1, 0}, 513, []byte{0}},
		{2, []byte{255, 255, 255, 255}, 65535, []byte{255, 255}},
		{4, []byte{1, 2, 3, 4}, 0x01020304, nil},
		{4, []byte{255, 255, 255, 255}, 4294967295, nil},
		{4, []byte{128, 0, 0, 0, 9, 8, 7}, 1 << 31, []byte{9, 8, 7}},
		{8, []byte{1, 2, 3, 4, 5, 6, 7, 8}, 0x0102030405060708, nil},
		{8, []byte{255, 255, 255, 255, 255, 255, 255, 255}, math.MaxUint64, nil},
		{8, []byte{0, 0, 0, 0, 0, 0, 0, 0, 1}, 0, []byte{1}},
		{8, bytes.Repeat([]byte{254}, 70000), 0xfefefefefefefefe, bytes.Repeat([]byte{254}, 69992)},
	} {
		n, others, e := Take(c.width, c.b)
		if n != c.n || !bytes.Equal(others, c.others) || e != api.OK {
			t.Errorf("Take(%d, %d bytes): %d, %d bytes, %v", c.width, len(c.b), n, len(others), e)
		}
		want, wantErr := c.n, api.OK
		if len(c.others) > 0 {
			want, wantErr = 0, api.ErrBig
		}
		if n, e := Get(c.width, c.b); n != want || e != wantErr {
			t.Errorf("Get(%d, %d bytes): %d, %v", c.width, len(c.b), n, e)
		}
	}
}

// Of every count of bytes, from none on: too few, just as many, and more.
func TestTakeAndGetByCount(t *testing.T) {
	all := []byte{255, 1, 254, 2, 253, 3, 252, 4, 251, 5, 250, 6, 249, 7, 248, 8, 247}
	for _, w := range widths {
		number := binary.BigEndian.Uint64(append(make([]byte, 8-w.width), all[:w.width]...))
		for count := range len(all) + 1 {
			b := all[:count:count]
			n, others, e := Take(w.width, b)
			g, ge := Get(w.width, b)
			switch {
			case count < w.width:
				if n != 0 || len(others) != 0 || e != api.ErrEnd || g != 0 || ge != api.ErrEnd {
					t.Errorf("width %d, %d bytes: Take %d, %v, %v; Get %d, %v", w.width, count, n, others, e, g, ge)
				}
			case count == w.width:
				if n != number || len(others) != 0 || e != api.OK || g != number || ge != api.OK {
					t.Errorf("width %d, %d bytes: Take %d, %v, %v; Get %d, %v", w.width, count, n, others, e, g, ge)
				}
			default:
				if n != number || !bytes.Equal(others, all[w.width:count]) || e != api.OK || g != 0 || ge != api.ErrBig {
					t.Errorf("width %d, %d bytes: Take %d, %v, %v; Get %d, %v", w.width, count, n, others, e, g, ge)
				}
			}
		}
	}
}

// A list's spare room is none of its bytes.
func TestSpareRoomIsNotTaken(t *testing.T) {
	room := []byte{1, 2, 3, 4, 5, 6, 7, 8, 9}
	for _, w := range widths {
		if n, others, e := Take(w.width, room[:w.width-1]); n != 0 || len(others) != 0 || e != api.ErrEnd {
			t.Errorf("Take(%d): %d, %v, %v", w.width, n, others, e)
		}
		if n, e := Get(w.width, room[:w.width-1]); n != 0 || e != api.ErrEnd {
			t.Errorf("Get(%d): %d, %v", w.width, n, e)
		}
		if n, e := Get(w.width, room[:w.width]); n == 0 || e != api.OK {
			t.Errorf("Get(%d): %d, %v", w.width, n, e)
		}
	}
}

// What is no width is told of, however many bytes there are.
func TestTakeAndGetOfNoWidth(t *testing.T) {
	for _, width := range noWidths() {
		for _, count := range []int{0, 1, 2, 3, 4, 7, 8, 9, 300} {
			b := bytes.Repeat([]byte{5}, count)
			if n, others, e := Take(width, b); n != 0 || len(others) != 0 || e != api.ErrArg {
				t.Errorf("Take(%d, %d bytes): %d, %v, %v", width, count, n, others, e)
			}
			if n, e := Get(width, b); n != 0 || e != api.ErrArg {
				t.Errorf("Get(%d, %d bytes): %d, %v", width, count, n, e)
			}
		}
	}
}

func TestCmp(t *testing.T) {
	for _, c := range []struct {
		a, b uint64
		want int
	}{
		{0, 0, 0},
		{0, 1, -1},
		{255, 256, -1},
		{1<<32 - 1, 1 << 32, -1},
		{1, 1 << 32, -1},
		{1<<63 - 1, 1 << 63, -1},
		{0, math.MaxUint64, -1},
		{math.MaxUint64 - 1, math.MaxUint64, -1},
		{math.MaxUint64, math.MaxUint64, 0},
	} {
		if got := Cmp(c.a, c.b); got != c.want {
			t.Errorf("Cmp(%d, %d): %d", c.a, c.b, got)
		}
		if got := Cmp(c.b, c.a); got != -c.want {
			t.Errorf("Cmp(%d, %d): %d", c.b, c.a, got)
		}
	}
	numbers := fewNumbers(math.MaxUint64)
	for i, a := range numbers {
		for j, b := range numbers {
			if got, want := Cmp(a, b), cmp.Compare(i, j); got != want {
				t.Fatalf("Cmp(%d, %d): %d, not %d", a, b, got, want)
			}
		}
	}
}

// P2.3

func TestBytesAreInOrderAsNumbers(t *testing.T) {
	for _, w := range widths {
		numbers := fewNumbers(w.most)
		for _, a := range numbers {
			for _, b := range numbers {
				x, xe := Put(w.width, a)
				y, ye := Put(w.width, b)
				if xe != api.OK || ye != api.OK || bytes.Compare(x, y) != Cmp(a, b) {
					t.Fatalf("width %d: %d is %v, %d is %v", w.width, a, x, b, y)
				}
			}
		}
	}
}

// Of the two lesser widths, every number and the one above it.
func TestBytesOfAllNumbersRise(t *testing.T) {
	for _, w := range widths[:2] {
		last, _ := Put(w.width, 0)
		for n := range w.most {
			next, e := Put(w.width, n+1)
			if e != api.OK || bytes.Compare(last, next) != -1 {
				t.Fatalf("width %d: %d is %v, the next one %v, %v", w.width, n, last, next, e)
			}
			last = next
		}
	}
}

// P2.4

func TestWhatIsPutIsTaken(t *testing.T) {
	behinds := [][]byte{nil, {}, {0}, {255}, {1, 2, 3}, bytes.Repeat([]byte{255}, 8), bytes.Repeat([]byte{0}, 9), bytes.Repeat([]byte{7}, 70000)}
	for _, w := range widths {
		for _, n := range fewNumbers(w.most) {
			b, e := Put(w.width, n)
			if e != api.OK || len(b) != w.width {
				t.Fatalf("Put(%d, %d): %v, %v", w.width, n, b, e)
			}
			if got, e := Get(w.width, b); got != n || e != api.OK {
				t.Fatalf("Get(%d, %v): %d, %v, not %d", w.width, b, got, e, n)
			}
			for _, behind := range behinds {
				got, others, e := Take(w.width, slices.Concat(b, behind))
				if got != n || !bytes.Equal(others, behind) || e != api.OK {
					t.Fatalf("Take(%d, %v and %d bytes): %d, %d bytes, %v, not %d", w.width, b, len(behind), got, len(others), e, n)
				}
			}
		}
	}
}

// One behind the other, of all widths: each is taken from what the one ahead of it left.
func TestNumbersBehindEachOtherAreTaken(t *testing.T) {
	var all []byte
	for _, w := range widths {
		b, _ := Put(w.width, w.most-1)
		all = append(all, b...)
	}
	for _, w := range widths {
		n, others, e := Take(w.width, all)
		if n != w.most-1 || e != api.OK {
			t.Fatalf("Take(%d): %d, %v", w.width, n, e)
		}
		all = others
	}
	if len(all) != 0 {
		t.Error("left:", all)
	}
}

// And the other way round: bytes that are taken are those of the number.
func TestWhatIsTakenWasPut(t *testing.T) {
	for _, w := range widths {
		for _, x := range []byte{0, 1, 127, 128, 254, 255} {
			for place := range w.width {
				b := bytes.Repeat([]byte{x}, w.width)
				b[place] = 5
				n, e := Get(w.width, b)
				if again, pe := Put(w.width, n); e != api.OK || pe != api.OK || !bytes.Equal(again, b) {
					t.Fatalf("width %d: %v is %d, which is %v", w.width, b, n, again)
				}
			}
		}
	}
}

// The rules

// R4: nothing is written to what was handed in, and no answer lies in it, not even in its spare room.
func TestArgumentsStay(t *testing.T) {
	room := []byte{1, 2, 3, 4, 5, 6, 7, 8, 9, 10, 11, 12}
	was := slices.Clone(room)
	for _, w := range widths {
		for count := w.width; count <= 10; count++ {
			_, others, _ := Take(w.width, room[:count])
			want := slices.Clone(others)
			Get(w.width, room[:count])
			for i := range others {
				others[i] = 0
			}
			_ = append(others, 0, 0, 0)
			if !bytes.Equal(room, was) {
				t.Fatalf("width %d, %d bytes: Take shares memory: %v", w.width, count, room)
			}
			_, others, _ = Take(w.width, room[:count])
			clear(room)
			if !bytes.Equal(others, want) {
				t.Fatalf("width %d, %d bytes: what was taken changes with what was handed in: %v", w.width, count, others)
			}
			copy(room, was)
		}
	}
}

// R3, R4: answers are new ones each time.
func TestAnswersAreNew(t *testing.T) {
	for _, w := range widths {
		a, _ := Put(w.width, 1)
		b, _ := Put(w.width, 1)
		a[w.width-1] = 9
		if b[w.width-1] != 1 {
			t.Error("two answers of Put share memory")
		}
		all := append(make([]byte, w.width), 3)
		_, c, _ := Take(w.width, all)
		_, d, _ := Take(w.width, all)
		c[0] = 9
		if d[0] != 3 {
			t.Error("two answers of Take share memory")
		}
	}
}

// R5: nil is as empty.
func TestNilIsAsEmpty(t *testing.T) {
	for _, width := range []int{0, 1, 2, 3, 4, 8, -1} {
		a, x, e := Take(width, nil)
		b, y, f := Take(width, []byte{})
		if a != b || len(x) != 0 || len(y) != 0 || e != f || e == api.OK {
			t.Errorf("Take(%d): %d, %v, %v; %d, %v, %v", width, a, x, e, b, y, f)
		}
		c, g := Get(width, nil)
		d, h := Get(width, []byte{})
		if c != d || g != h || g != e {
			t.Errorf("Get(%d): %d, %v; %d, %v", width, c, g, d, h)
		}
	}
}
