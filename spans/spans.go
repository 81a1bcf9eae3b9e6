// Package spans is layer 1: see shared/doc/01-spans.md.
package spans

import (
	"sort"
	"strings"

	"envoy/api"
)

// Lines tells the bytes at which the lines of s begin.
func Lines(s string) []int {
	l := []int{0}
	for i := range len(s) {
		if s[i] == '\n' {
			l = append(l, i+1)
		}
	}
	return l
}

// Place tells the line and the column of the byte at.
func Place(s string, at int) (int, int, api.Errno) {
	if at < 0 || at > len(s) {
		return 0, 0, api.ErrArg
	}
	lines := Lines(s)
	line := sort.SearchInts(lines, at+1)
	return line, at - lines[line-1] + 1, api.OK
}

// Offset tells the byte of a line and a column.
func Offset(s string, line, column int) (int, api.Errno) {
	from, to, e := bounds(s, line)
	if e != api.OK {
		return 0, e
	}
	if column < 1 || column-1 > to-from {
		return 0, api.ErrArg
	}
	return from + column - 1, api.OK
}

// Line tells the bytes of a line.
func Line(s string, line int) (string, api.Errno) {
	from, to, e := bounds(s, line)
	if e != api.OK {
		return "", e
	}
	return s[from:to], api.OK
}

// Mark tells the line of the byte at, and below it a mark at its column.
func Mark(s string, at int) (string, api.Errno) {
	line, column, e := Place(s, at)
	if e != api.OK {
		return "", e
	}
	text, e := Line(s, line)
	if e != api.OK {
		return "", e
	}
	return text + "\n" + strings.Repeat(" ", column-1) + "^", api.OK
}

// bounds tells where a line begins, and where its bytes end (ahead of its byte 10).
func bounds(s string, line int) (int, int, api.Errno) {
	lines := Lines(s)
	if line < 1 || line > len(lines) {
		return 0, 0, api.ErrArg
	}
	if line == len(lines) {
		return lines[line-1], len(s), api.OK
	}
	return lines[line-1], lines[line] - 1, api.OK
}
