package senc

import (
	"bytes"
	"regexp"
	"slices"
	"testing"

	"spunyarn/api"
)

// fewTexts are all lists of at most so many bytes out of some: enough for each way in which the bytes that mean something can stand behind each other.
func fewTexts(most int, some ...byte) [][]byte {
	all := [][]byte{{}}
	last := all
	for range most {
		var longer [][]byte
		for _, s := range last {
			for _, b := range some {
				longer = append(longer, append(slices.Clone(s), b))
			}
		}
		all = append(all, longer...)
		last = longer
	}
	return all
}

func filled(n int, b byte) []byte { return bytes.Repeat([]byte{b}, n) }

// bytesOf are a text's bytes by another way: its pieces between the bytes 0, with 0 and 255 between them, and the end behind.
func bytesOf(s []byte) []byte {
	return slices.Concat(bytes.Join(bytes.Split(s, []byte{0}), []byte{0, 255}), []byte{0, 0})
}

// longTexts are as long as keys may be, and longer.
func longTexts() [][]byte {
	var all [][]byte
	for _, n := range []int{65533, 65535, 65536, 70000} {
		all = append(all, filled(n, 0), filled(n, 255), filled(n, 'x'), bytes.Repeat([]byte{0, 255}, n/2), append(filled(n, 7), 0), append([]byte{0}, filled(n, 7)...))
	}
	return all
}

// texts are all that the tests below put.
func texts() [][]byte {
	all := append(fewTexts(4, 0, 1, 254, 255), nil, []byte("word"), []byte("é and a \x00 within"))
	for b := range 256 {
		all = append(all, []byte{byte(b)}, []byte{0, byte(b)}, []byte{byte(b), 0}, []byte{'a', byte(b), 'z'})
	}
	return append(all, longTexts()...)
}

// behinds are what may stand behind a text's end.
func behinds() [][]byte {
	return append(fewTexts(2, 0, 1, 255), []byte{0, 255, 0, 0}, []byte{0, 5}, []byte("more"), filled(70000, 0), filled(70000, 255))
}

// few is a list's beginning, for what a test tells.
func few(b []byte) []byte { return b[:min(len(b), 12)] }

// P4.1

func TestPut(t *testing.T) {
	for _, c := range []struct{ s, want []byte }{
		{nil, []byte{0, 0}},
		{[]byte{}, []byte{0, 0}},
		{[]byte{0}, []byte{0, 255, 0, 0}},
		{[]byte{255}, []byte{255, 0, 0}},
		{[]byte{1}, []byte{1, 0, 0}},
		{[]byte("ab"), []byte{'a', 'b', 0, 0}},
		{[]byte{0, 7}, []byte{0, 255, 7, 0, 0}},
		{[]byte{7, 0, 8}, []byte{7, 0, 255, 8, 0, 0}},
		{[]byte{7, 0}, []byte{7, 0, 255, 0, 0}},
		{[]byte{0, 0, 0}, []byte{0, 255, 0, 255, 0, 255, 0, 0}},
		{[]byte{7, 0, 0, 8}, []byte{7, 0, 255, 0, 255, 8, 0, 0}},
		{[]byte{0, 255}, []byte{0, 255, 255, 0, 0}},
		{[]byte{0, 255, 255}, []byte{0, 255, 255, 255, 0, 0}},
		{[]byte{255, 0}, []byte{255, 0, 255, 0, 0}},
		{[]byte{0, 255, 0}, []byte{0, 255, 255, 0, 255, 0, 0}},
	} {
		if b := Put(c.s); !bytes.Equal(b, c.want) {
			t.Errorf("Put(%v): %v, not %v", c.s, b, c.want)
		}
	}
}

func TestPutAndLenOfTexts(t *testing.T) {
	for _, s := range texts() {
		want := bytesOf(s)
		if b := Put(s); !bytes.Equal(b, want) {
			t.Fatalf("Put(%v ..), %d bytes: %v .., %d bytes, not %v .., %d bytes", few(s), len(s), few(b), len(b), few(want), len(want))
		}
		if n := Len(s); n != len(want) {
			t.Fatalf("Len(%v ..), %d bytes: %d, not %d", few(s), len(s), n, len(want))
		}
	}
}

func TestLen(t *testing.T) {
	for _, c := range []struct {
		s    []byte
		want int
	}{
		{nil, 2},
		{[]byte{}, 2},
		{[]byte{0}, 4},
		{[]byte{255}, 3},
		{[]byte{0, 255}, 5},
		{[]byte{0, 0, 1}, 7},
		{filled(70000, 0), 140002},
		{filled(70000, 255), 70002},
	} {
		if n := Len(c.s); n != c.want {
			t.Errorf("Len(%v ..), %d bytes: %d, not %d", few(c.s), len(c.s), n, c.want)
		}
	}
}

func TestOther(t *testing.T) {
	for _, c := range []struct{ b, want []byte }{
		{nil, nil},
		{[]byte{}, nil},
		{[]byte{0}, []byte{255}},
		{[]byte{255}, []byte{0}},
		{[]byte{127, 128}, []byte{128, 127}},
		{[]byte{0, 255, 0, 0}, []byte{255, 0, 255, 255}},
		{filled(70000, 1), filled(70000, 254)},
	} {
		if b := Other(c.b); !bytes.Equal(b, c.want) {
			t.Errorf("Other(%v ..), %d bytes: %v .., not %v", few(c.b), len(c.b), few(b), few(c.want))
		}
	}
	for b := range 256 {
		got := Other([]byte{9, byte(b)})
		if len(got) != 2 || got[0] != 246 || int(got[1])+b != 255 {
			t.Errorf("Other(9, %d): %v", b, got)
		}
	}
}

// Whatever bytes there are, the other ones of the other ones are they.
func TestOtherTwice(t *testing.T) {
	for _, s := range texts() {
		if b := Other(Other(s)); !bytes.Equal(b, s) {
			t.Fatalf("Other of Other(%v ..), %d bytes: %v .., %d bytes", few(s), len(s), few(b), len(b))
		}
	}
}

// P4.2

func TestTakeAndEnd(t *testing.T) {
	for _, c := range []struct {
		b, text, others []byte
	}{
		{[]byte{0, 0}, nil, nil},
		{[]byte{0, 0, 0}, nil, []byte{0}},
		{[]byte{0, 0, 255}, nil, []byte{255}},
		{[]byte{0, 0, 0, 0}, nil, []byte{0, 0}},
		{[]byte{0, 0, 0, 5}, nil, []byte{0, 5}},
		{[]byte{0, 255, 0, 0}, []byte{0}, nil},
		{[]byte{0, 255, 0, 0, 0}, []byte{0}, []byte{0}},
		{[]byte{0, 255, 0, 0, 255}, []byte{0}, []byte{255}},
		{[]byte{0, 255, 255, 0, 0}, []byte{0, 255}, nil},
		{[]byte{255, 0, 0}, []byte{255}, nil},
		{[]byte{255, 0, 255, 0, 0}, []byte{255, 0}, nil},
		{[]byte{0, 255, 0, 255, 0, 0, 0, 255}, []byte{0, 0}, []byte{0, 255}},
		{[]byte{'a', 0, 0, 'b'}, []byte{'a'}, []byte{'b'}},
		{[]byte{'a', 0, 255, 'b', 0, 0, 'c', 0, 0}, []byte{'a', 0, 'b'}, []byte{'c', 0, 0}},
		{[]byte{1, 255, 0, 0, 0, 1}, []byte{1, 255}, []byte{0, 1}},
	} {
		text, others, e := Take(c.b)
		if !bytes.Equal(text, c.text) || !bytes.Equal(others, c.others) || e != api.OK {
			t.Errorf("Take(%v): %v, %v, %v, not %v, %v", c.b, text, others, e, c.text, c.others)
		}
		if n, e := End(c.b); n != len(c.b)-len(c.others) || e != api.OK {
			t.Errorf("End(%v): %d, %v", c.b, n, e)
		}
	}
}

// wrong looks whether both calls tell an error, and nothing beside it.
func wrong(t *testing.T, b []byte, want api.Errno) {
	t.Helper()
	if text, others, e := Take(b); len(text) != 0 || len(others) != 0 || e != want {
		t.Errorf("Take(%v ..), %d bytes: %v, %v, %v, not %v", few(b), len(b), few(text), few(others), e, want)
	}
	if n, e := End(b); n != 0 || e != want {
		t.Errorf("End(%v ..), %d bytes: %d, %v, not %v", few(b), len(b), n, e, want)
	}
}

func TestMissingEnd(t *testing.T) {
	for _, b := range [][]byte{
		nil,
		{},
		{0},
		{1},
		{255},
		{1, 0},
		{255, 0},
		{0, 255},
		{0, 255, 0},
		{0, 255, 255},
		{0, 255, 0, 255},
		{0, 255, 0, 255, 0},
		[]byte("word"),
		[]byte("word\x00"),
		filled(70000, 255),
		append(filled(70000, 1), 0),
		bytes.Repeat([]byte{0, 255}, 40000),
	} {
		wrong(t, b, api.ErrEnd)
	}
}

// No beginning of a text's bytes is taken but all of them.
func TestBeginningsMissTheirEnd(t *testing.T) {
	for _, s := range fewTexts(3, 0, 1, 255) {
		b := bytesOf(s)
		for n := range len(b) {
			wrong(t, b[:n:n], api.ErrEnd)
		}
	}
}

// A list's spare room is none of its bytes.
func TestSpareRoomIsNotTaken(t *testing.T) {
	room := []byte{1, 0, 0, 0}
	wrong(t, room[:0], api.ErrEnd)
	wrong(t, room[:1], api.ErrEnd)
	wrong(t, room[:2], api.ErrEnd)
	if text, others, e := Take(room[:3]); string(text) != "\x01" || len(others) != 0 || e != api.OK {
		t.Error(text, others, e)
	}
}

// A 0 with every byte behind it that is neither 0 nor 255, whatever stands ahead, and with an end behind or not.
func TestWrongByteBehindA0(t *testing.T) {
	for c := 1; c < 255; c++ {
		for _, ahead := range [][]byte{nil, {1}, {255}, {0, 255}, {255, 0, 255}, {'a', 'b'}, filled(70000, 3)} {
			for _, behind := range [][]byte{nil, {0}, {0, 0}, {255}, {255, 0, 0}, {0, 255}, {1, 0, 0, 9}} {
				wrong(t, slices.Concat(ahead, []byte{0, byte(c)}, behind), api.ErrForm)
			}
		}
	}
}

// Where both faults are, the one that is met first from the first byte on is told; behind the end nothing is a fault.
func TestBothFaults(t *testing.T) {
	for _, b := range [][]byte{
		{0, 5},
		{0, 5, 0},
		{0, 5, 6},
		{1, 0, 5, 1},
		{0, 255, 0, 5, 0, 255},
		{0, 5, 0, 6, 0},
		{0, 254, 255, 0},
		append([]byte{0, 1}, filled(70000, 2)...),
		append(filled(70000, 2), 0, 1),
	} {
		wrong(t, b, api.ErrForm)
	}
	for _, behind := range [][]byte{{0}, {0, 5}, {0, 5, 0}, {1}, {0, 255, 0}} {
		b := slices.Concat([]byte{8, 0, 0}, behind)
		if text, others, e := Take(b); string(text) != "\x08" || !bytes.Equal(others, behind) || e != api.OK {
			t.Errorf("Take(%v): %v, %v, %v", b, text, others, e)
		}
		if n, e := End(b); n != 3 || e != api.OK {
			t.Errorf("End(%v): %d, %v", b, n, e)
		}
	}
}

// Every list of at most six bytes out of those that mean something and two others, held against the form as a pattern: z stands for 0, m for 255, x for the others.
func TestAllShortLists(t *testing.T) {
	whole := regexp.MustCompile(`^(?:x|m|zm)*zz`)
	cut := regexp.MustCompile(`^(?:x|m|zm)*z?$`)
	for _, b := range fewTexts(6, 0, 1, 254, 255) {
		signs := make([]byte, len(b))
		for i, c := range b {
			signs[i] = map[byte]byte{0: 'z', 1: 'x', 254: 'x', 255: 'm'}[c]
		}
		place := whole.FindIndex(signs)
		switch {
		case place == nil && cut.Match(signs):
			wrong(t, b, api.ErrEnd)
		case place == nil:
			wrong(t, b, api.ErrForm)
		default:
			if n, e := End(b); n != place[1] || e != api.OK {
				t.Fatalf("End(%v): %d, %v, not %d", b, n, e, place[1])
			}
			text, others, e := Take(b)
			if e != api.OK || !bytes.Equal(bytesOf(text), b[:place[1]]) || !bytes.Equal(others, b[place[1]:]) {
				t.Fatalf("Take(%v): %v, %v, %v", b, text, others, e)
			}
		}
	}
}

// P4.3

func TestBytesAreInOrderAsTexts(t *testing.T) {
	all := append(fewTexts(3, 0, 1, 127, 254, 255), []byte("a"), []byte("a\x00"), []byte("a\x00b"), []byte("ab"), []byte("b"))
	for _, a := range all {
		x, ox := Put(a), Other(Put(a))
		for _, b := range all {
			want := bytes.Compare(a, b)
			y, oy := Put(b), Other(Put(b))
			if bytes.Compare(x, y) != want {
				t.Fatalf("%v is %v, %v is %v", a, x, b, y)
			}
			if bytes.Compare(ox, oy) != -want {
				t.Fatalf("the other ones: %v is %v, %v is %v", a, ox, b, oy)
			}
			if want != 0 && (bytes.HasPrefix(x, y) || bytes.HasPrefix(ox, oy)) {
				t.Fatalf("%v is %v, %v is %v: one is the beginning of the other one", a, x, b, y)
			}
		}
	}
}

// Long texts of which one is the beginning of the other, or that part at their end alone.
func TestLongTextsAreInOrder(t *testing.T) {
	for _, c := range []byte{0, 1, 255} {
		long := filled(65535, c)
		rising := [][]byte{filled(65534, c), long, append(slices.Clone(long), 0), append(slices.Clone(long), 0, 255), append(slices.Clone(long), 1), append(slices.Clone(long), 255)}
		for i := range rising[1:] {
			x, y := Put(rising[i]), Put(rising[i+1])
			if bytes.Compare(x, y) != -1 || bytes.HasPrefix(y, x) || bytes.Compare(Other(x), Other(y)) != 1 {
				t.Errorf("texts of bytes %d, %d and %d of them: not in order", c, len(rising[i]), len(rising[i+1]))
			}
		}
	}
}

// P4.4

func TestWhatIsPutIsTaken(t *testing.T) {
	all := behinds()
	for _, s := range texts() {
		b := Put(s)
		for i, behind := range all {
			if len(s) > 1000 && i%5 != 0 {
				continue
			}
			text, others, e := Take(slices.Concat(b, behind))
			if !bytes.Equal(text, s) || !bytes.Equal(others, behind) || e != api.OK {
				t.Fatalf("%v .., %d bytes, with %v .. behind: %v .., %v .., %v", few(s), len(s), few(behind), few(text), few(others), e)
			}
			if n, e := End(slices.Concat(b, behind)); n != Len(s) || e != api.OK {
				t.Fatalf("%v .., %d bytes, with %v .. behind: the end at %d, %v", few(s), len(s), few(behind), n, e)
			}
		}
	}
}

// Of the other ones what is put is taken too, once they are turned back.
func TestOtherOnesAreTaken(t *testing.T) {
	for _, s := range texts() {
		text, others, e := Take(Other(append(Other(Put(s)), 255, 0, 7)))
		if !bytes.Equal(text, s) || !bytes.Equal(others, []byte{0, 255, 248}) || e != api.OK {
			t.Fatalf("%v .., %d bytes: %v .., %v, %v", few(s), len(s), few(text), others, e)
		}
	}
}

// One behind the other: each is taken from what the one ahead of it left.
func TestTextsBehindEachOtherAreTaken(t *testing.T) {
	list := fewTexts(3, 0, 9, 255)
	var all []byte
	for _, s := range list {
		all = append(all, Put(s)...)
	}
	for _, s := range list {
		text, others, e := Take(all)
		if !bytes.Equal(text, s) || e != api.OK {
			t.Fatalf("%v: %v, %v", s, text, e)
		}
		all = others
	}
	if len(all) != 0 {
		t.Error("left:", all)
	}
}

// The rules

// answers are all lists that the calls answer.
func answers(b []byte) [][]byte {
	text, others, _ := Take(b)
	return [][]byte{Put(b), Other(b), text, others}
}

// R4: nothing is written to what was handed in, and no answer lies in it, not even in its spare room, nor in another one.
func TestArgumentsStay(t *testing.T) {
	room := []byte{3, 0, 255, 4, 0, 0, 5, 6, 77, 88, 99}
	was := slices.Clone(room)
	want := [][]byte{{3, 0, 255, 255, 4, 0, 255, 0, 255, 5, 6, 0, 0}, {252, 255, 0, 251, 255, 255, 250, 249}, {3, 0, 4}, {5, 6}}
	all := answers(room[:8])
	for i := range all {
		if !bytes.Equal(all[i], want[i]) {
			t.Fatalf("answer %d: %v, not %v", i, all[i], want[i])
		}
		clear(all[i])
		grown := append(all[i], 1, 2, 3)
		clear(grown[:cap(grown)])
		if !bytes.Equal(room, was) {
			t.Fatalf("answer %d shares memory with what was handed in: %v", i, room)
		}
		for j := i + 1; j < len(all); j++ {
			if !bytes.Equal(all[j], want[j]) {
				t.Fatalf("answer %d shares memory with answer %d", i, j)
			}
		}
	}
	all = answers(room[:8])
	clear(room)
	for i := range all {
		if !bytes.Equal(all[i], want[i]) {
			t.Errorf("answer %d changes with what was handed in: %v", i, all[i])
		}
	}
}

// The spare room of one list of an answer is none of the other one's.
func TestTakenListsShareNothing(t *testing.T) {
	text, others, _ := Take([]byte{1, 0, 255, 2, 0, 0, 3, 4})
	clear(text[:cap(text)])
	if !bytes.Equal(others, []byte{3, 4}) {
		t.Error("the text's room is the others':", others)
	}
	text, others, _ = Take([]byte{1, 0, 255, 2, 0, 0, 3, 4})
	clear(others[:cap(others)])
	if !bytes.Equal(text, []byte{1, 0, 2}) {
		t.Error("the others' room is the text's:", text)
	}
}

// R3, R4: answers are new ones each time.
func TestAnswersAreNew(t *testing.T) {
	b := []byte{1, 0, 0, 1}
	first, second := answers(b), answers(b)
	for i := range first {
		want := slices.Clone(second[i])
		clear(first[i][:cap(first[i])])
		if !bytes.Equal(second[i], want) || !bytes.Equal(answers(b)[i], want) {
			t.Error("two answers share memory:", i)
		}
	}
}

// R5: nil and empty lists are the same.
func TestNilIsEmpty(t *testing.T) {
	for i, got := range answers(nil) {
		if want := answers([]byte{})[i]; !bytes.Equal(got, want) {
			t.Errorf("answer %d: %v of nil, %v of an empty list", i, got, want)
		}
	}
	if Len(nil) != Len([]byte{}) {
		t.Error("Len:", Len(nil), Len([]byte{}))
	}
}
