// Package keys is layer 1: keys, and their order: see shared/doc/01-keys.md.
package keys

import (
	"spunyarn/api"
)

// The digits of a key's text, each at the place of what it counts.
const digits = "0123456789abcdef"

// One sign more than the longest key's text has: so a text with half a byte too many is still told as ill-formed, and only one with a whole byte too many as too big.
const maxSigns = 2*api.MaxKey + 1

// The highest byte: nothing stands behind it at its place.
const highest = 255

// May looks whether it may be a key.
func May(k []byte) api.Errno {
	if len(k) > api.MaxKey {
		return api.ErrBig
	}
	return api.OK
}

// Cmp holds one against another one.
func Cmp(a, b []byte) int {
	n := Common(a, b)
	switch {
	case n == len(a) && n == len(b):
		return 0
	case n == len(a):
		return -1
	case n == len(b):
		return 1
	case a[n] < b[n]:
		return -1
	}
	return 1
}

// Same tells whether both are the same.
func Same(a, b []byte) bool {
	return len(a) == len(b) && Common(a, b) == len(a)
}

// Common is with how many bytes both begin.
func Common(a, b []byte) int {
	most := min(len(a), len(b))
	for i := range most {
		if a[i] != b[i] {
			return i
		}
	}
	return most
}

// Begins tells whether it begins with a prefix.
func Begins(k, prefix []byte) bool {
	return Common(k, prefix) == len(prefix)
}

// Next is the next one of a prefix.
func Next(prefix []byte) ([]byte, bool) {
	n := raisable(prefix)
	if n == 0 {
		return nil, false
	}
	next := make([]byte, n)
	copy(next, prefix)
	next[n-1]++
	return next, true
}

// raisable is how many bytes are left without the highest ones at the end, which can't be one more.
func raisable(prefix []byte) int {
	for i := range len(prefix) {
		left := len(prefix) - i
		if prefix[left-1] != highest {
			return left
		}
	}
	return 0
}

// Within tells whether it stands between two.
func Within(k, from, to []byte, open bool) bool {
	return Cmp(k, from) >= 0 && (open || Cmp(k, to) < 0)
}

// Text is a key's text.
func Text(k []byte) string {
	t := make([]byte, 2*len(k))
	for i := range len(k) {
		t[2*i] = digits[k[i]>>4]
		t[2*i+1] = digits[k[i]&15]
	}
	return string(t)
}

// Parse is the key of a text.
func Parse(s string) ([]byte, api.Errno) {
	if len(s) > maxSigns {
		return nil, api.ErrBig
	}
	if len(s)%2 != 0 {
		return nil, api.ErrForm
	}
	k := make([]byte, len(s)/2)
	for i := range len(k) {
		high, highFine := digit(s[2*i])
		low, lowFine := digit(s[2*i+1])
		if !highFine || !lowFine {
			return nil, api.ErrForm
		}
		k[i] = high<<4 | low
	}
	return k, api.OK
}

// digit is what a sign counts, and whether it is a digit; great letters are none, so that each key has one text alone.
func digit(c byte) (byte, bool) {
	switch {
	case c >= '0' && c <= '9':
		return c - '0', true
	case c >= 'a' && c <= 'f':
		return c - 'a' + 10, true
	}
	return 0, false
}

// Sorted tells whether pairs rise.
func Sorted(l []api.Pair) bool {
	for i := range len(l) {
		if i > 0 && Cmp(l[i-1].Key, l[i].Key) >= 0 {
			return false
		}
	}
	return true
}
