package path

import (
	"strings"

	"quarry/api"
	"quarry/pointer"
	"quarry/texts"
	"quarry/tree"
)

// The readers below answer the step whose text begins at a place of s, and the place behind it; or nil, and the place of the first byte that can't stand where it does, which is the length of s, if that ends too early.

// read: a whole step. At its place there is a byte.
func read(s string, at int) (step, int) {
	switch s[at] {
	case '.':
		return behindPoint(s, at+1)
	case '[':
		return inBrackets(s, at+1)
	}
	return nil, at
}

// behindPoint: a step, from behind its point on.
func behindPoint(s string, at int) (step, int) {
	if n := word(s[at:]); n > 0 {
		return byName(strings.Clone(s[at : at+n])), at + n
	}
	return star(s, at)
}

// inBrackets: a step, from behind its opening bracket on.
func inBrackets(s string, at int) (step, int) {
	x, end := bare(s, at)
	if x == nil || !has(s, end, ']') {
		return nil, end
	}
	return x, end + 1
}

// bare: what stands of a step between its brackets.
func bare(s string, at int) (step, int) {
	switch {
	case has(s, at, '"'):
		return quoted(s, at)
	case has(s, at, '*'):
		return star(s, at)
	}
	return number(s, at)
}

func star(s string, at int) (step, int) {
	if !has(s, at, '*') {
		return nil, at
	}
	return each{}, at + 1
}

// number: a place. What a place begins with is a place, too: so the longest one is come to byte by byte, and the next byte can't stand behind it.
func number(s string, at int) (step, int) {
	var x step
	end := at
	for end < len(s) {
		n, ok := pointer.Place(s[at : end+1])
		if !ok {
			break
		}
		x = byPlace(n)
		end++
	}
	return x, end
}

// quoted: a name between quotes. By itself that is a document; and if it is none, the document's fault is the path's.
func quoted(s string, at int) (step, int) {
	end := len(s)
	if last, e := texts.End(s, at+1); e == api.OK {
		end = last + 1
	}
	v, verdict, _ := tree.Parse(s[at:end], 1)
	if verdict.Code != api.Valid {
		return nil, at + verdict.At
	}
	return byName(v.Text), end
}

// has: does s have a byte at a place?
func has(s string, at int, x byte) bool {
	return at < len(s) && s[at] == x
}

// word: how many bytes of a name there are at the beginning of s that may stand behind a point.
func word(s string) int {
	for i := range len(s) {
		if !letter(s[i]) && (i == 0 || !digit(s[i])) {
			return i
		}
	}
	return len(s)
}

func letter(x byte) bool {
	return 'a' <= x && x <= 'z' || 'A' <= x && x <= 'Z' || x == '_'
}

func digit(x byte) bool {
	return '0' <= x && x <= '9'
}
