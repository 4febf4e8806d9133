package stream

import "strings"

// text is what a Splitter has of the text: what came of the document that isn't told yet, or all from the bad place on.
type text struct {
	kept []byte
}

// keep: s came, and isn't told yet.
func (t *text) keep(s string) { t.kept = append(t.kept, s...) }

// take: what is kept, with s behind it; from then on nothing is.
func (t *text) take(s string) string {
	// Written anew, as a text put together by + would be s itself where nothing is kept.
	var all strings.Builder
	all.Grow(len(t.kept) + len(s))
	all.Write(t.kept)
	all.WriteString(s)
	t.kept = nil
	return all.String()
}
