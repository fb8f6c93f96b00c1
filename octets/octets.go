// Package octets is layer 1: see shared/doc/01-octets.md.
package octets

import (
	"bytes"

	"switchyard/api"
)

const digits = "0123456789abcdef"

// U16 reads the number that two bytes say, lowest byte first.
func U16(b []byte, at int) (uint16, bool) {
	v, ok := number(b, at, 2)
	return uint16(v), ok
}

// U32 reads the number that four bytes say, lowest byte first.
func U32(b []byte, at int) (uint32, bool) {
	return number(b, at, 4)
}

// I32 is U32 with the same bits as a signed number.
func I32(b []byte, at int) (int32, bool) {
	v, ok := number(b, at, 4)
	return int32(v), ok
}

// Put32 answers a copy of b in which four bytes say v, lowest byte first.
func Put32(b []byte, at int, v uint32) ([]byte, api.Errno) {
	if !inside(b, at, 4) {
		return nil, api.ErrArg
	}
	out := make([]byte, len(b))
	copy(out, b)
	for i := range 4 {
		out[at+i] = byte(v >> (8 * i))
	}
	return out, api.OK
}

// Same says whether both lists hold the same bytes; an empty one and none are the same.
func Same(a, b []byte) bool {
	return bytes.Equal(a, b)
}

// Hex writes each byte as two digits, the higher one first.
func Hex(b []byte) string {
	text := make([]byte, 2*len(b))
	for i := range len(b) {
		text[2*i] = digits[b[i]>>4]
		text[2*i+1] = digits[b[i]&15]
	}
	return string(text)
}

// Unhex reads what Hex writes, and nothing else.
func Unhex(s string) ([]byte, bool) {
	if len(s)%2 != 0 {
		return nil, false
	}
	out := make([]byte, len(s)/2)
	// A rune of several bytes is no digit, so up to the first refusal i counts runes as well as bytes.
	for i, r := range s {
		d, ok := digit(r)
		if !ok {
			return nil, false
		}
		out[i/2] = out[i/2]<<4 | d
	}
	return out, true
}

func number(b []byte, at, count int) (uint32, bool) {
	if !inside(b, at, count) {
		return 0, false
	}
	var v uint32
	for i := range count {
		v |= uint32(b[at+i]) << (8 * i)
	}
	return v, true
}

// inside takes count off the length, since at + count would wrap near the greatest int.
func inside(b []byte, at, count int) bool {
	return at >= 0 && at <= len(b)-count
}

func digit(r rune) (byte, bool) {
	switch {
	case '0' <= r && r <= '9':
		return byte(r - '0'), true
	case 'a' <= r && r <= 'f':
		return byte(r-'a') + 10, true
	}
	return 0, false
}
