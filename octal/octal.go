// Package octal is layer 1: see shared/doc/01-octal.md.
package octal

import (
	"boulter/api"
)

// A field's least and greatest number of bytes.
const (
	minField = 2
	maxField = 12
)

// The first byte of a field in binary tells the sign.
const (
	notBelow = 0x80
	below    = 0xff
)

// Read is a field's number.
func Read(field string) (int, api.Errno) {
	if !isSize(len(field)) {
		return 0, api.ErrArg
	}
	switch field[0] {
	case notBelow:
		return readBinary(0, field[1:])
	case below:
		return readBinary(-1, field[1:])
	}
	return readOctal(field)
}

// Octal is a number in octal.
func Octal(v, n int) (string, bool) {
	if !isSize(n) || v < 0 || v>>(3*(n-1)) != 0 {
		return "", false
	}
	field := make([]byte, n)
	for at := range n - 1 {
		field[at] = '0' + byte(v>>(3*(n-2-at))&7)
	}
	return string(field), true
}

// Binary is a number in binary.
func Binary(v, n int) (string, bool) {
	if !isSize(n) {
		return "", false
	}
	field := make([]byte, n)
	// Just a number that the bytes behind the first one hold leaves nothing but its sign above them.
	switch v >> (8 * (n - 1)) {
	case 0:
		field[0] = notBelow
	case -1:
		field[0] = below
	default:
		return "", false
	}
	for at := 1; at < n; at++ {
		field[at] = byte(v >> (8 * (n - 1 - at)))
	}
	return string(field), true
}

// Write is a number as it is written.
func Write(v, n int) (string, api.Errno) {
	if !isSize(n) {
		return "", api.ErrArg
	}
	if !inRange(v) {
		return "", api.ErrRange
	}
	if field, ok := Octal(v, n); ok {
		return field, api.OK
	}
	if field, ok := Binary(v, n); ok {
		return field, api.OK
	}
	return "", api.ErrRange
}

func isSize(n int) bool { return minField <= n && n <= maxField }

func inRange(v int) bool { return -api.MaxNumber <= v && v <= api.MaxNumber }

// readOctal needs no look at the range: twelve digits are below MaxNumber.
func readOctal(field string) (int, api.Errno) {
	const (
		blanks = iota
		digits
		rest
	)
	part, number, at := blanks, 0, 0
parts:
	for at < len(field) {
		b := field[at]
		switch {
		case part == blanks && b == ' ':
		case part != rest && '0' <= b && b <= '7':
			part = digits
			number = number<<3 | int(b-'0')
		case b == 0 || b == ' ':
			part = rest
		default:
			break parts
		}
		at++
	}
	if at < len(field) {
		return 0, api.ErrForm
	}
	return number, api.OK
}

// readBinary begins with 0, or with -1: shifted past k bytes the latter takes off 256 to the power of k.
func readBinary(number int, bytes string) (int, api.Errno) {
	for at := range len(bytes) {
		number = number<<8 | int(bytes[at])
		// Once beyond the range, no further byte leads back; to stop keeps the next shift from running over.
		if !inRange(number) {
			return 0, api.ErrRange
		}
	}
	return number, api.OK
}
