// Package octs is layer 1: numbers as bytes: see shared/doc/01-octs.md.
package octs

import (
	"euphroe/api"
)

// The most bytes that a number has.
const most = 8

// The digits of base 16.
const digits = "0123456789ABCDEF"

// What a byte that is no digit is worth: more than any digit is.
const noDigit = 16

// Put is a number laid.
func Put(n uint64, width int, little bool) ([]byte, api.Errno) {
	if width < 1 || width > most {
		return nil, api.ErrArg
	}
	b := make([]byte, width)
	for i := range b {
		b[place(i, width, little)] = byte(n)
		n >>= 8
	}
	return b, api.OK
}

// Get is the number of bytes.
func Get(b []byte, little bool) (uint64, api.Errno) {
	if len(b) < 1 || len(b) > most {
		return 0, api.ErrArg
	}
	var n uint64
	for i := range b {
		n |= uint64(b[place(i, len(b), little)]) << (8 * i)
	}
	return n, api.OK
}

// place is where a number's byte i stands, counted from the lowest one on.
func place(i, width int, little bool) int {
	if little {
		return i
	}
	return width - 1 - i
}

// Xor are bytes turned by others.
func Xor(a, b []byte) ([]byte, api.Errno) {
	if len(a) != len(b) {
		return nil, api.ErrArg
	}
	turned := make([]byte, len(a))
	for i := range a {
		turned[i] = a[i] ^ b[i]
	}
	return turned, api.OK
}

// Same tells whether both are the same.
func Same(a, b []byte) bool {
	// Differences are gathered, and asked for once behind the loop, so that the time it takes does not tell where two seals differ.
	differ := len(a) ^ len(b)
	for i := range min(len(a), len(b)) {
		differ |= int(a[i] ^ b[i])
	}
	return differ == 0
}

// Hex are bytes in digits.
func Hex(b []byte) string {
	text := make([]byte, 0, 2*len(b))
	for _, x := range b {
		text = append(text, digits[x>>4], digits[x&15])
	}
	return string(text)
}

// Unhex are the bytes of digits.
func Unhex(s string) ([]byte, api.Errno) {
	if len(s)%2 != 0 {
		return nil, api.ErrForm
	}
	b := make([]byte, 0, len(s)/2)
	i := 0
pair:
	if i == len(s) {
		return b, api.OK
	}
	high, low := worth(s[i]), worth(s[i+1])
	if high == noDigit || low == noDigit {
		return nil, api.ErrForm
	}
	b = append(b, high<<4|low)
	i += 2
	goto pair
}

// worth is what a digit stands for, or noDigit.
func worth(digit byte) byte {
	switch {
	case digit >= '0' && digit <= '9':
		return digit - '0'
	case digit >= 'A' && digit <= 'F':
		return digit - 'A' + 10
	case digit >= 'a' && digit <= 'f':
		return digit - 'a' + 10
	}
	return noDigit
}

// Join are all parts.
func Join(parts ...[]byte) []byte {
	size := 0
	for _, p := range parts {
		size += len(p)
	}
	all := make([]byte, 0, size)
	for _, p := range parts {
		all = append(all, p...)
	}
	return all
}
