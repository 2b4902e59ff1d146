// Package text is layer 2: see shared/doc/02-text.md.
package text

import (
	"strings"

	"boulter/api"
)

// A name's two fields have at most so many bytes.
const (
	maxPrefix = 155
	maxBase   = 100
)

const nul = "\x00"

// Read is a field's text.
func Read(field string) string {
	s, _, _ := strings.Cut(field, nul)
	return s
}

// Write is a text in so many bytes.
func Write(s string, n int) (string, bool) {
	if n < 0 || n > api.Block || len(s) > n || strings.Contains(s, nul) {
		return "", false
	}
	return s + strings.Repeat(nul, n-len(s)), true
}

// Part is a name in two fields.
func Part(name string) (prefix, base string, ok bool) {
	if len(name) <= maxBase {
		return "", name, true
	}
	// The last byte is left out, since no base would stand behind a slash there.
	slash := strings.LastIndex(name[:min(len(name)-1, maxPrefix+1)], "/")
	if slash < 1 || len(name)-slash-1 > maxBase {
		return "", "", false
	}
	return name[:slash], name[slash+1:], true
}

// Join is the name of two fields.
func Join(prefix, base string) string {
	if prefix == "" {
		return base
	}
	return prefix + "/" + base
}

// Blank tells whether all bytes are NUL.
func Blank(s string) bool { return strings.TrimLeft(s, nul) == "" }
