package levels

import (
	"fmt"
	"math"
	"slices"
	"strings"
	"sync"
	"testing"

	"quarry/api"
	"quarry/bitmap"
	"quarry/escape"
	"quarry/quotes"
)

// sample: the text of the chapter's examples.
const sample = `{"a":[1,2],"b:":3}`

var lens = []int{0, 1, 2, 62, 63, 64, 65, 66, 126, 127, 128, 129, 130}

// ends: places that no text has, and the ends of a number.
var ends = []int{math.MinInt, math.MinInt + 1, -65, -64, -63, -2, -1, math.MaxInt - 64, math.MaxInt - 63, math.MaxInt - 1, math.MaxInt}

// outside: of each place whether it is outside, by the words of the chapters 6 to 8.
func outside(s string) []bool {
	list := make([]bool, len(s))
	escaped, count := false, 0
	for i := range len(s) {
		mark := s[i] == 34 && !escaped
		escaped = s[i] == 92 && !escaped
		if mark {
			count++
		}
		list[i] = !mark && count%2 == 0
	}
	return list
}

// told: what the chapter's words say of a text.
type told struct {
	opening, closing []bool
	depth            []int // ahead of each place, and of the length
	colons, commas   []int // the level of the one that stands there; -1: none does
}

func plain(s string) told {
	var x told
	depth := 0
	for i, out := range outside(s) {
		x.depth = append(x.depth, depth)
		x.opening = append(x.opening, out && (s[i] == 123 || s[i] == 91))
		x.closing = append(x.closing, out && (s[i] == 125 || s[i] == 93))
		colon, comma := -1, -1
		if out && s[i] == 58 {
			colon = depth
		}
		if out && s[i] == 44 {
			comma = depth
		}
		x.colons, x.commas = append(x.colons, colon), append(x.commas, comma)
		if x.opening[i] {
			depth++
		}
		if x.closing[i] && depth > 0 {
			depth--
		}
	}
	x.depth = append(x.depth, depth)
	return x
}

// ahead: the depth ahead of any place.
func (x told) ahead(at int) int {
	return x.depth[min(max(at, 0), len(x.depth)-1)]
}

// closed: where the bracket at any place is closed.
func (x told) closed(at int) int {
	if at < 0 || at >= len(x.opening) || !x.opening[at] {
		return -1
	}
	for i := at + 1; i < len(x.closing); i++ {
		if x.closing[i] && x.depth[i] == x.depth[at]+1 {
			return i
		}
	}
	return -1
}

// at: the places at which a list of levels has this one.
func at(list []int, level int) []int {
	var places []int
	for i, x := range list {
		if x == level {
			places = append(places, i)
		}
	}
	return places
}

// row: the row of n bits with these places set, by doubling alone, so that a wrong shift can't agree with itself.
func row(n int, places []int) api.Bits {
	b := api.Bits{Len: n}
	for i := range n {
		if i%64 == 0 {
			b.Words = append(b.Words, 0)
		}
		if slices.Contains(places, i) {
			var worth uint64 = 1
			for range i % 64 {
				worth *= 2
			}
			b.Words[i/64] += worth
		}
	}
	return b
}

func same(a, b api.Bits) bool { return a.Len == b.Len && slices.Equal(a.Words, b.Words) }

func sameLevels(a, b api.Levels) bool {
	return slices.EqualFunc(a.Colons, b.Colons, same) && slices.EqualFunc(a.Commas, b.Commas, same)
}

// build: what Build answers of a text of which it must answer something.
func build(t *testing.T, s string, most int) api.Levels {
	t.Helper()
	l, e := Build(s, most)
	if e != api.OK {
		t.Fatalf("Build(%q, %d): error %d", s, most, e)
	}
	return l
}

// checkBuild: Build of a text, row by row.
func checkBuild(t *testing.T, s string, most int) {
	t.Helper()
	l, want := build(t, s, most), plain(s)
	if len(l.Colons) != most || len(l.Commas) != most {
		t.Fatalf("Build(%q, %d): %d rows of colons, %d of commas", s, most, len(l.Colons), len(l.Commas))
	}
	for k := range most {
		if w := row(len(s), at(want.colons, k+1)); !same(l.Colons[k], w) || !bitmap.Formed(l.Colons[k]) {
			t.Fatalf("Build(%q, %d): the colons of the level %d: %x, not %x", s, most, k+1, l.Colons[k], w)
		}
		if w := row(len(s), at(want.commas, k+1)); !same(l.Commas[k], w) || !bitmap.Formed(l.Commas[k]) {
			t.Fatalf("Build(%q, %d): the commas of the level %d: %x, not %x", s, most, k+1, l.Commas[k], w)
		}
	}
}

// checkPlaces: Depth and Close of a text, at each place and at what is none.
func checkPlaces(t *testing.T, s string) {
	t.Helper()
	want := plain(s)
	list := slices.Clone(ends)
	for at := -3; at <= len(s)+3; at++ {
		list = append(list, at)
	}
	for _, at := range append(list, len(s)+63, len(s)+64, len(s)+65) {
		if got, want := Depth(s, at), want.ahead(at); got != want {
			t.Fatalf("Depth(%q, %d): %d, not %d", s, at, got, want)
		}
		if got, want := Close(s, at), want.closed(at); got != want {
			t.Fatalf("Close(%q, %d): %d, not %d", s, at, got, want)
		}
	}
}

// checkWithin: Colons and Commas of a text's own levels, at every level and in spans all over.
func checkWithin(t *testing.T, s string, most int, spans []api.Span) {
	t.Helper()
	l, want := build(t, s, most), plain(s)
	for level := -1; level <= most+2; level++ {
		var colons, commas []int
		if level >= 1 && level <= most {
			colons, commas = at(want.colons, level), at(want.commas, level)
		}
		for _, in := range spans {
			if got := Colons(l, level, in); !slices.Equal(got, kept(colons, in)) {
				t.Fatalf("Colons(%q, %d, %v): %v, not %v", s, level, in, got, kept(colons, in))
			}
			if got := Commas(l, level, in); !slices.Equal(got, kept(commas, in)) {
				t.Fatalf("Commas(%q, %d, %v): %v, not %v", s, level, in, got, kept(commas, in))
			}
		}
	}
}

// kept: those of a list of places that lie in a span.
func kept(places []int, in api.Span) []int {
	var list []int
	for _, i := range places {
		if i >= in.From && i < in.To {
			list = append(list, i)
		}
	}
	return list
}

// everySpan: each span of which both ends are one of these.
func everySpan(of []int) []api.Span {
	var list []api.Span
	for _, from := range of {
		for _, to := range of {
			list = append(list, api.Span{From: from, To: to})
		}
	}
	return list
}

// upAndDown: the numbers from below 0 to above a length, and the ends of a number.
func upAndDown(n int) []int {
	list := slices.Clone(ends)
	for i := -2; i <= n+2; i++ {
		list = append(list, i)
	}
	return list
}

// rule: numbers by a fixed rule, the same in each run.
type rule uint64

func (r *rule) below(n int) int {
	*r = *r*6364136223846793005 + 1442695040888963407
	return int(uint64(*r) >> 33 % uint64(n))
}

// text: n of these, one behind the other.
func (r *rule) text(n int, of []string) string {
	var b strings.Builder
	for range n {
		b.WriteString(of[r.below(len(of))])
	}
	return b.String()
}

// mixes: what mixed texts are made of: deep ones and flat ones, with many texts, with backslashes, with words and blanks.
func mixes() [][]string {
	return [][]string{
		{"[", "]", "{", "}", ":", ","},
		{"[", "[", "{", "]", ":", ",", ","},
		{"[", "]", "]", "}", ":", ",", "a"},
		{"[", "]", "{", "}", ":", ",", `"`, `\`, "a", " "},
		{`[`, `]`, `,`, `:`, `"[,:]"`, `"\"]"`, `"\\"`, `\"`, `{`, `}`},
		{"[1,2]", `{"a":1}`, "[", "]", ",", ":", "\xff", "\n", `"`, "\\\\"},
	}
}

// short: every text of at most n bytes of these.
func short(n int, of string) []string {
	list := []string{""}
	for i := 0; len(list[i]) < n; i++ {
		for k := range len(of) {
			list = append(list, list[i]+of[k:k+1])
		}
	}
	return list
}

func filled(n int, x byte) string { return strings.Repeat(string([]byte{x}), n) }

// nested: n brackets in one another, kinds in turns, with what stands in the middle.
func nested(n int, middle string) string {
	var from, to strings.Builder
	for i := range n {
		from.WriteByte("[{"[i%2])
		to.WriteByte("}]"[(n+i)%2])
	}
	return from.String() + middle + to.String()
}

// texts: ordinary ones, the edges that the chapter names, of lengths at the ends of words, mixed ones.
func texts() []string {
	list := []string{
		"", sample, ":", ",", "[", "]", "{", "}", "[]", "{}", "[}", "{]", "a:b,", "[:,]", "]][", "][,]", "[[1,2],3:4]",
		`"["`, `"[,:]"`, `"[,:`, `[",:]`, `["a",":"]`, `\"[,:]"],`, `[\",:]`, `["\",:]",:]`, `["\\",:]`, `[\\",:]"`, `\[,\],\:,\{`, `[\,\:\]`,
		"],:[,:]],:[[,:]", "[,]],[,]", "}{:}", "[{],}:", "{[}]", `{"a":{"b":{"c":[1,{"d":2}]}}}`, "[\xff,\x00:\x80]", "[\n,\t:\r]",
		nested(3, ",:"), nested(64, ":,"), nested(65, ",:"), nested(66, "1,2:3"), nested(200, ","),
	}
	for _, n := range lens {
		list = append(list, filled(n, '['), filled(n, ']'), filled(n, ','), filled(n, ':'), "["+filled(n, ','), "["+filled(n, ' ')+",]:", filled(n, ' ')+"[,:]", `["`+filled(n, ',')+`",]`, "["+filled(n, '\\')+`",]":`)
		r := rule(n)
		for _, of := range mixes() {
			s := r.text(n, of)
			list = append(list, s[:min(n, len(s))])
		}
	}
	return list
}

// The chapter's examples, row by row.

func TestExamplesOfBuild(t *testing.T) {
	l := build(t, sample, 2)
	if len(l.Colons) != 2 || len(l.Commas) != 2 || !same(l.Colons[0], row(18, []int{4, 15})) || !same(l.Colons[1], row(18, nil)) || !same(l.Commas[0], row(18, []int{10})) || !same(l.Commas[1], row(18, []int{7})) {
		t.Error(l)
	}
	if one := build(t, sample, 1); len(one.Colons) != 1 || len(one.Commas) != 1 || !same(one.Colons[0], l.Colons[0]) || !same(one.Commas[0], l.Commas[0]) {
		t.Error(one)
	}
	for _, most := range []int{0, 65} {
		if l, e := Build(sample, most); e != api.ErrRange || l.Colons != nil || l.Commas != nil {
			t.Error(most, l, e)
		}
	}
	flat := build(t, "a:b,", 64)
	for k := range 64 {
		if !same(flat.Colons[k], row(4, nil)) || !same(flat.Commas[k], row(4, nil)) {
			t.Error(k, flat)
		}
	}
	two := build(t, "[[1,2],3:4]", 2)
	if !same(two.Commas[1], row(11, []int{3})) || !same(two.Commas[0], row(11, []int{6})) || !same(two.Colons[0], row(11, []int{8})) || !same(two.Colons[1], row(11, nil)) {
		t.Error(two)
	}
}

func TestExamplesOfColonsAndCommas(t *testing.T) {
	l := build(t, sample, 2)
	for _, x := range []struct {
		call  func(api.Levels, int, api.Span) []int
		level int
		in    api.Span
		want  []int
	}{
		{Commas, 2, api.Span{From: 5, To: 9}, []int{7}},
		{Commas, 2, api.Span{To: 7}, nil},
		{Commas, 1, api.Span{From: -5, To: 100}, []int{10}},
		{Colons, 3, api.Span{To: 18}, nil},
		{Colons, 0, api.Span{To: 18}, nil},
	} {
		if got := x.call(l, x.level, x.in); !slices.Equal(got, x.want) {
			t.Error(x.level, x.in, got)
		}
	}
}

func TestExamplesOfDepth(t *testing.T) {
	for _, x := range []struct {
		s        string
		at, want int
	}{
		{sample, 0, 0}, {sample, 1, 1}, {sample, 6, 2}, {sample, 9, 2}, {sample, 10, 1}, {sample, 100, 0},
		{"]][", 2, 0}, {"]][", 3, 1}, {`"["`, 2, 0},
	} {
		if got := Depth(x.s, x.at); got != x.want {
			t.Error(x.s, x.at, got)
		}
	}
}

func TestExamplesOfClose(t *testing.T) {
	for _, x := range []struct {
		s        string
		at, want int
	}{
		{sample, 0, 17}, {sample, 5, 9}, {sample, 1, -1}, {sample, -1, -1}, {sample, 17, -1},
		{"[}", 0, 1}, {"[[]", 0, -1}, {"[[]", 1, 2}, {"][]", 1, 2},
	} {
		if got := Close(x.s, x.at); got != x.want {
			t.Error(x.s, x.at, got)
		}
	}
}

// All calls against the chapter's words.

func TestOfTexts(t *testing.T) {
	for _, s := range texts() {
		for _, most := range []int{1, 2, 3, 63, 64} {
			checkBuild(t, s, most)
		}
		checkPlaces(t, s)
		checkWithin(t, s, 3, everySpan([]int{math.MinInt, -1, 0, 1, len(s) / 2, 63, 64, 65, 127, 128, len(s) - 1, len(s), len(s) + 1, math.MaxInt}))
	}
}

func TestOfShortTexts(t *testing.T) {
	for _, s := range short(5, `[}:,"\`) {
		// Ahead of it what leaves it as it is, so that it lies over the end of a word as well.
		for _, ahead := range []string{"", filled(61, 'a')} {
			checkBuild(t, ahead+s, 3)
		}
		checkPlaces(t, s)
	}
	for _, s := range short(4, `{[]}:,`) {
		checkBuild(t, s, 4)
		checkPlaces(t, s)
		checkPlaces(t, filled(62, ' ')+s)
	}
}

func TestOfMixedTexts(t *testing.T) {
	r := rule(10)
	for n := range 240 {
		s := r.text(n, mixes()[n%len(mixes())])
		checkBuild(t, s, 1+n%64)
		if n < 150 {
			checkPlaces(t, s)
		}
		checkWithin(t, s, 2+n%5, everySpan([]int{-1, 0, r.below(len(s) + 1), r.below(len(s) + 1), r.below(len(s) + 1), len(s), len(s) + 9}))
	}
}

// Each byte is one thing alone: which are brackets, colons, commas, and that no other one is.
func TestOfEveryByte(t *testing.T) {
	for x := range 256 {
		one := string([]byte{byte(x)})
		for _, s := range []string{one, "[" + one + ",:]", "[" + one, "[[" + one + ":", `["` + one + `,"` + one + `]`, `[\` + one + ",:]", filled(63, '[') + one + ","} {
			checkBuild(t, s, 64)
			checkPlaces(t, s)
		}
	}
}

// A row that is made has at most MaxBits bits; of a text no such bound is told.
func TestOfALongText(t *testing.T) {
	n := api.MaxBits + 65
	b := []byte(filled(n, ' '))
	b[0], b[n-1] = '[', ']'
	for _, at := range []int{100, api.MaxBits - 1, api.MaxBits, n - 2} {
		b[at] = ','
	}
	b[200], b[api.MaxBits+1] = '{', '}'
	b[api.MaxBits-2] = ':'
	s := string(b)
	l := build(t, s, 2)
	all := api.Span{From: math.MinInt, To: math.MaxInt}
	if l.Commas[0].Len != n || !bitmap.Formed(l.Commas[0]) || !slices.Equal(Commas(l, 1, all), []int{100, n - 2}) || !slices.Equal(Commas(l, 2, all), []int{api.MaxBits - 1, api.MaxBits}) {
		t.Error(l.Commas[0].Len, Commas(l, 1, all), Commas(l, 2, all))
	}
	if l.Colons[1].Len != n || len(Colons(l, 1, all)) != 0 || !slices.Equal(Colons(l, 2, all), []int{api.MaxBits - 2}) {
		t.Error(l.Colons[1].Len, Colons(l, 1, all), Colons(l, 2, all))
	}
	if Depth(s, api.MaxBits) != 2 || Depth(s, n-1) != 1 || Depth(s, math.MaxInt) != 0 || Close(s, 0) != n-1 || Close(s, 200) != api.MaxBits+1 {
		t.Error(Depth(s, api.MaxBits), Depth(s, n-1), Close(s, 0), Close(s, 200))
	}
}

// P10.1

func TestBuildOfLevelsThatThereAreNone(t *testing.T) {
	for _, s := range []string{"", "a", sample, filled(200, '[')} {
		for _, most := range []int{0, -1, -2, -64, 65, 66, 128, 1 << 32, 1<<32 + 1, math.MinInt, math.MinInt + 1, math.MaxInt - 1, math.MaxInt} {
			if l, e := Build(s, most); e != api.ErrRange || len(l.Colons) != 0 || len(l.Commas) != 0 {
				t.Errorf("Build(%q, %d): %v, %d", s, most, l, e)
			}
		}
	}
}

func TestBuildWithEachNumberOfLevels(t *testing.T) {
	for most := 1; most <= api.MaxLevels; most++ {
		for _, s := range []string{"", sample, nested(70, ":,"), strings.Repeat("[,:", 70)} {
			checkBuild(t, s, most)
		}
	}
}

func TestBuildOfTheEmptyText(t *testing.T) {
	for _, most := range []int{1, 64} {
		l := build(t, "", most)
		if len(l.Colons) != most || len(l.Commas) != most {
			t.Fatal(most, l)
		}
		for _, b := range slices.Concat(l.Colons, l.Commas) {
			if b.Len != 0 || len(b.Words) != 0 {
				t.Error(most, b)
			}
		}
	}
}

// As many rows as levels, of as many bits as the text has bytes, each well shaped, at all lengths around the ends of words.
func TestBuildTellsRowsOfTheTextsLength(t *testing.T) {
	for n := range 200 {
		for _, most := range []int{1, 2, 64} {
			s := "[" + filled(n, ',')
			l := build(t, s[:n], most)
			if len(l.Colons) != most || len(l.Commas) != most {
				t.Fatal(n, most, len(l.Colons), len(l.Commas))
			}
			for _, b := range slices.Concat(l.Colons, l.Commas) {
				if b.Len != n || len(b.Words) != (n+63)/64 || !bitmap.Formed(b) {
					t.Fatal(n, most, b)
				}
			}
			if got := bitmap.Count(l.Commas[0], 0, n); got != max(n-1, 0) {
				t.Fatal(n, most, got)
			}
		}
	}
}

// At the level 0, at the level most and above it.
func TestBuildAtTheBoundsOfTheLevels(t *testing.T) {
	all := api.Span{To: math.MaxInt}
	for most := 1; most <= api.MaxLevels; most++ {
		for depth := range most + 3 {
			for _, x := range []string{",", ":"} {
				s := filled(depth, '{') + x
				l := build(t, s, most)
				for level := 1; level <= most; level++ {
					var want []int
					if level == depth {
						want = []int{depth}
					}
					calls := []func(api.Levels, int, api.Span) []int{Commas, Colons}
					if x == ":" {
						slices.Reverse(calls)
					}
					if got := calls[0](l, level, all); !slices.Equal(got, want) {
						t.Fatal(s, most, level, got)
					}
					if got := calls[1](l, level, all); len(got) != 0 {
						t.Fatal(s, most, level, got)
					}
				}
			}
		}
	}
}

// What stands inside counts for nothing, behind an escaped quote too, and in a text that is never closed.
func TestWhatIsInsideCountsForNothing(t *testing.T) {
	for _, n := range []int{0, 1, 60, 61, 62, 63, 64, 65, 126, 127} {
		for _, inside := range []string{"[", "]", "{", "}", ",", ":", `\"[`, `\"]`, `\",`, `\":`, `\\\"]`, `\\`, "[]{},:"} {
			ahead := "[" + filled(n, ' ')
			closed := ahead + `"` + inside + `",:]`
			checkBuild(t, closed, 3)
			if got := Close(closed, 0); got != len(closed)-1 {
				t.Fatalf("Close(%q, 0): %d", closed, got)
			}
			open := ahead + `"` + inside + `,:]`
			l := build(t, open, 2)
			for level := range 3 {
				if a, b := Colons(l, level, api.Span{To: len(open)}), Commas(l, level, api.Span{To: len(open)}); len(a)+len(b) != 0 {
					t.Fatalf("%q: %v, %v", open, a, b)
				}
			}
			if Close(open, 0) != -1 || Depth(open, len(open)) != 1 {
				t.Fatalf("%q: closed at %d, the depth %d", open, Close(open, 0), Depth(open, len(open)))
			}
			for i := range inside {
				if got := Close(closed, len(ahead)+1+i); got != -1 {
					t.Fatalf("Close(%q, %d): %d", closed, len(ahead)+1+i, got)
				}
			}
		}
	}
}

// A quote that is escaped outside opens no text; a bracket, colon or comma behind a backslash outside counts.
func TestBackslashesOutside(t *testing.T) {
	for _, s := range []string{`[\",:]`, `[\\\",:]`, `\"[,:]`, `\[\,\:\]`, `[\\",:]"]`, `[\{\",\":\}]`} {
		for _, n := range []int{0, 58, 59, 60, 61, 62, 63} {
			checkBuild(t, filled(n, 'a')+s, 3)
			checkPlaces(t, filled(n, 'a')+s)
		}
	}
	if l := build(t, `[\",:]`, 1); !slices.Equal(Commas(l, 1, api.Span{To: 6}), []int{3}) || !slices.Equal(Colons(l, 1, api.Span{To: 6}), []int{4}) {
		t.Error(l)
	}
	if Close(`\[\,\:\]`, 1) != 7 || Close(`\"[\"]`, 2) != 5 {
		t.Error(Close(`\[\,\:\]`, 1), Close(`\"[\"]`, 2))
	}
}

// A closing bracket that closes nothing leaves the depth at 0, wherever it stands.
func TestClosingBracketsThatCloseNothing(t *testing.T) {
	for n := range 140 {
		for _, x := range []byte{']', '}'} {
			lead := filled(n, x)
			s := lead + "[,:]" + lead + "{,:}"
			if got := Depth(lead, n); got != 0 {
				t.Fatal(n, got)
			}
			checkBuild(t, s, 2)
			if Close(s, n) != n+3 || Close(s, 2*n+4) != 2*n+7 || Depth(s, n+1) != 1 || Depth(s, 2*n+5) != 1 || Depth(s, 2*n+8) != 0 {
				t.Fatal(s)
			}
		}
	}
}

// P10.2

// wrongRows: rows that aren't well shaped, each with bits where a look at it would find some.
func wrongRows() []api.Bits {
	all := uint64(math.MaxUint64)
	return []api.Bits{
		{Len: 70, Words: []uint64{9}},
		{Len: 64},
		{Len: 1},
		{Len: 129, Words: []uint64{all, all}},
		{Len: 70, Words: []uint64{9, 1, 0}},
		{Len: 0, Words: []uint64{0}},
		{Len: 64, Words: []uint64{9, 0}},
		{Len: 3, Words: []uint64{9}},
		{Len: 70, Words: []uint64{9, 64}},
		{Len: 70, Words: []uint64{9, 1 << 63}},
		{Len: 1, Words: []uint64{all}},
		{Len: -1},
		{Len: -1, Words: []uint64{9}},
		{Len: -64, Words: []uint64{9}},
		{Len: math.MinInt, Words: []uint64{9}},
		{Len: math.MinInt},
		{Len: math.MaxInt, Words: []uint64{9}},
		{Len: math.MaxInt},
	}
}

func TestRowsThatAreNotWellShaped(t *testing.T) {
	good := row(70, []int{0, 3, 64})
	spans := everySpan([]int{math.MinInt, -1, 0, 1, 3, 4, 63, 64, 65, 70, 71, math.MaxInt})
	for i, wrong := range wrongRows() {
		l := api.Levels{Colons: []api.Bits{good, wrong, good}, Commas: []api.Bits{wrong, good}}
		for _, in := range spans {
			if a, b := Colons(l, 2, in), Commas(l, 1, in); len(a)+len(b) != 0 {
				t.Fatal(i, in, a, b)
			}
			// One that is wrong says nothing of those beside it.
			want := kept([]int{0, 3, 64}, in)
			if !slices.Equal(Colons(l, 1, in), want) || !slices.Equal(Colons(l, 3, in), want) || !slices.Equal(Commas(l, 2, in), want) {
				t.Fatal(i, in)
			}
		}
	}
}

func TestLevelsThatThereAreNone(t *testing.T) {
	in := api.Span{From: math.MinInt, To: math.MaxInt}
	b := row(70, []int{0, 3, 64, 69})
	for n := range 70 {
		l := api.Levels{Colons: slices.Repeat([]api.Bits{b}, n), Commas: slices.Repeat([]api.Bits{b}, n+1)}
		for _, level := range append(upAndDown(72), 1<<32+1, -1<<32+1, 1<<63-1) {
			var colons, commas []int
			if level >= 1 && level <= n {
				colons = []int{0, 3, 64, 69}
			}
			if level >= 1 && level <= n+1 {
				commas = []int{0, 3, 64, 69}
			}
			if got := Colons(l, level, in); !slices.Equal(got, colons) {
				t.Fatal(n, level, got)
			}
			if got := Commas(l, level, in); !slices.Equal(got, commas) {
				t.Fatal(n, level, got)
			}
		}
	}
}

// Each of the two looks at its own list alone, whatever the other one is.
func TestListsThatAreUnlike(t *testing.T) {
	in := api.Span{To: 1000}
	a, b := row(10, []int{1, 5}), row(300, []int{2, 299})
	l := api.Levels{Colons: []api.Bits{a}, Commas: []api.Bits{b, a, {Len: -1}}}
	if !slices.Equal(Colons(l, 1, in), []int{1, 5}) || len(Colons(l, 2, in)) != 0 || !slices.Equal(Commas(l, 1, in), []int{2, 299}) || !slices.Equal(Commas(l, 2, in), []int{1, 5}) || len(Commas(l, 3, in)) != 0 || len(Commas(l, 4, in)) != 0 {
		t.Error(l)
	}
	for _, l := range []api.Levels{{}, {Colons: []api.Bits{}, Commas: []api.Bits{}}, {Colons: []api.Bits{{}}, Commas: []api.Bits{{}}}} {
		for level := -1; level < 4; level++ {
			if len(Colons(l, level, in)) != 0 || len(Commas(l, level, in)) != 0 {
				t.Error(level, l)
			}
		}
	}
	if list := Commas(api.Levels{Colons: []api.Bits{a}}, 1, in); len(list) != 0 {
		t.Error(list)
	}
	if list := Colons(api.Levels{Commas: []api.Bits{a}}, 1, in); len(list) != 0 {
		t.Error(list)
	}
}

// Spans that begin below 0, end above the length, are empty, or end ahead of where they begin, of rows that end within a word and with one.
func TestSpansAllOver(t *testing.T) {
	r := rule(2)
	for _, n := range []int{0, 1, 2, 63, 64, 65, 127, 128, 129, 192, 200} {
		for _, part := range []int{1, 2, 9, 64} {
			var places []int
			for i := range n {
				if r.below(part) == 0 {
					places = append(places, i)
				}
			}
			b := row(n, places)
			l := api.Levels{Colons: []api.Bits{{}, b}, Commas: []api.Bits{b}}
			for _, in := range everySpan(append([]int{-64, -1, math.MinInt, math.MaxInt, math.MaxInt - 63, math.MaxInt - 62}, near(n)...)) {
				want := kept(places, in)
				if got := Colons(l, 2, in); !slices.Equal(got, want) {
					t.Fatal(n, part, in, got, want)
				}
				if got := Commas(l, 1, in); !slices.Equal(got, want) {
					t.Fatal(n, part, in, got, want)
				}
			}
		}
	}
}

// near: the places of a row that lie beside the ends of its words, and some behind it.
func near(n int) []int {
	var list []int
	for i := range n + 70 {
		if i%64 <= 2 || i%64 >= 61 || i == n-1 || i == n || i == n+1 {
			list = append(list, i)
		}
	}
	return list
}

// P10.3

func TestDepthAtEachPlace(t *testing.T) {
	for _, n := range []int{0, 1, 63, 64, 65, 127, 128, 129, 3000} {
		s := filled(n, '[') + filled(n, '}')
		for i := 0; i <= 2*n; i += 1 + n/200 {
			if got, want := Depth(s, i), n-max(n-i, i-n); got != want {
				t.Fatal(n, i, got, want)
			}
		}
		if Depth(s, n) != n || Depth(s, 2*n) != 0 || Depth(s, 2*n+1) != 0 {
			t.Fatal(n)
		}
		if Depth(s[:n], n) != n || Depth(s[:n], n+1) != n || Depth(s[:n], math.MaxInt) != n || Depth(s[:n], 0) != 0 || Depth(s[:n], -1) != 0 || Depth(s[:n], math.MinInt) != 0 {
			t.Fatal(n)
		}
	}
}

// The depth ahead of a place hangs on what is ahead of it alone: of the text cut off there it is the same.
func TestDepthOfABeginning(t *testing.T) {
	for _, s := range texts() {
		for i := range len(s) + 1 {
			if a, b := Depth(s, i), Depth(s[:i], i); a != b {
				t.Fatalf("%q, %d: %d, %d", s, i, a, b)
			}
		}
	}
}

// P10.4

func TestCloseOfBracketsWithinBrackets(t *testing.T) {
	for _, n := range []int{1, 2, 31, 32, 33, 63, 64, 65, 300, 5000} {
		s := nested(n, `,"]}":`)
		middle := len(s) - 2*n
		for i := 0; i < n; i += 1 + n/100 {
			if got, want := Close(s, i), 2*n+middle-1-i; got != want {
				t.Fatal(n, i, got, want)
			}
			if got := Close(s, n+middle+i); got != -1 {
				t.Fatal(n, i, got)
			}
		}
		// The last closing bracket left out, the first one is never closed.
		if got := Close(s[:len(s)-1], 0); got != -1 {
			t.Fatal(n, got)
		}
	}
}

// Which kinds meet doesn't matter.
func TestBracketsOfTwoKinds(t *testing.T) {
	for _, s := range short(6, "[{]}") {
		one := strings.NewReplacer("{", "[", "}", "]").Replace(s)
		for i := range len(s) + 1 {
			if Close(s, i) != Close(one, i) || Depth(s, i) != Depth(one, i) {
				t.Fatal(s, i)
			}
		}
	}
}

// P10.5

func TestBetweenABracketAndWhereItIsClosed(t *testing.T) {
	for _, s := range append(texts(), short(5, "[}]:")...) {
		var closed [][2]int
		for i := range len(s) {
			end := Close(s, i)
			if end < 0 {
				continue
			}
			closed = append(closed, [2]int{i, end})
			for k := i + 1; k <= end; k++ {
				if Depth(s, k) <= Depth(s, i) {
					t.Fatalf("%q: from %d to %d, at %d", s, i, end, k)
				}
			}
			if Depth(s, end+1) != Depth(s, i) {
				t.Fatalf("%q: from %d to %d", s, i, end)
			}
		}
		for _, a := range closed {
			for _, b := range closed {
				if a[0] < b[0] && b[0] < a[1] && b[1] >= a[1] {
					t.Fatalf("%q: %v and %v cross", s, a, b)
				}
			}
		}
	}
}

func TestFewerLevelsAreTheBeginningOfMore(t *testing.T) {
	for _, s := range texts() {
		more := build(t, s, api.MaxLevels)
		for _, most := range []int{1, 2, 3, 10, 63} {
			fewer := build(t, s, most)
			if !sameLevels(fewer, api.Levels{Colons: more.Colons[:most], Commas: more.Commas[:most]}) {
				t.Fatalf("%q, %d", s, most)
			}
		}
	}
}

// Between a bracket ahead of which the depth is k and where it is closed the colons of the level k + 1 are its own: no bracket behind it is still open there.
func TestColonsOfABracketAreItsOwn(t *testing.T) {
	for _, s := range append(texts(), short(6, "[]:")...) {
		l := build(t, s, api.MaxLevels)
		for i := range len(s) {
			end := Close(s, i)
			if end < 0 {
				continue
			}
			for _, colon := range Colons(l, Depth(s, i)+1, api.Span{From: i, To: end}) {
				for k := i + 1; k < colon; k++ {
					if plain(s).opening[k] && (Close(s, k) < 0 || Close(s, k) > colon) {
						t.Fatalf("%q: the bracket at %d is still open at the colon %d", s, k, colon)
					}
				}
			}
		}
	}
}

// closesNothing: has a text a closing bracket ahead of which the depth is 0?
func closesNothing(s string) bool {
	x := plain(s)
	for i, is := range x.closing {
		if is && x.depth[i] == 0 {
			return true
		}
	}
	return false
}

func TestATextBetweenBrackets(t *testing.T) {
	tried := 0
	r := rule(5)
	list := append(texts(), short(5, `[]:,"\`)...)
	for n := range 300 {
		list = append(list, r.text(n%70, mixes()[n%len(mixes())]))
	}
	for _, s := range list {
		if quotes.Open(s) || escape.Behind(s, false) || closesNothing(s) {
			continue
		}
		tried++
		in, out := build(t, s, 63), build(t, "["+s+"]", 64)
		x := plain(s)
		for level := range 64 {
			colons, commas := moved(at(x.colons, level)), moved(at(x.commas, level))
			if !same(out.Colons[level], row(len(s)+2, colons)) || !same(out.Commas[level], row(len(s)+2, commas)) {
				t.Fatalf("%q: the level %d", s, level)
			}
			if level > 0 && (!slices.Equal(moved(Colons(in, level, api.Span{To: len(s)})), colons) || !slices.Equal(moved(Commas(in, level, api.Span{To: len(s)})), commas)) {
				t.Fatalf("%q: the level %d", s, level)
			}
		}
		for i := range len(s) + 1 {
			if Depth("["+s+"]", i+1) != Depth(s, i)+1 {
				t.Fatalf("%q: the depth ahead of %d", s, i)
			}
		}
	}
	if tried < 200 {
		t.Error("too few texts of that sort:", tried)
	}
}

// moved: each place one on.
func moved(places []int) []int {
	list := make([]int, len(places))
	for i, x := range places {
		list[i] = x + 1
	}
	return list
}

// Memory and sameness.

// spoil: writes over all of a row, the room behind it too.
func spoil(b api.Bits) {
	room := b.Words[:cap(b.Words)]
	for i := range room {
		room[i] = ^room[i]
	}
}

// Of all rows of an answer one is spoiled: the others must be as they were, and so must the next answer.
func TestRowsLieApart(t *testing.T) {
	for _, s := range []string{"[", sample, strings.Repeat("[,:]", 40), nested(64, ",:"), filled(64, ','), filled(65, '[')} {
		for _, most := range []int{1, 2, 8, 64} {
			want := build(t, s, most)
			for i := range 2 * most {
				l := build(t, s, most)
				all := slices.Concat(l.Colons, l.Commas)
				spoil(all[i])
				for k, b := range slices.Concat(want.Colons, want.Commas) {
					if same(all[k], b) != (k != i) {
						t.Fatalf("%q, %d levels: the row %d spoiled, the row %d", s, most, i, k)
					}
				}
			}
			if !sameLevels(build(t, s, most), want) {
				t.Fatalf("%q, %d levels", s, most)
			}
		}
	}
}

// The lists of rows themselves, and the room behind them.
func TestListsOfRowsLieApart(t *testing.T) {
	for _, s := range []string{"", sample, nested(8, ",:,")} {
		want := build(t, s, 8)
		l, other := build(t, s, 8), build(t, s, 8)
		room := l.Colons[:cap(l.Colons)]
		for i := range room {
			room[i] = api.Bits{Len: -1}
		}
		if !slices.EqualFunc(l.Commas, want.Commas, same) || !sameLevels(other, want) || !sameLevels(build(t, s, 8), want) {
			t.Errorf("%q", s)
		}
	}
}

func TestPlacesLieApart(t *testing.T) {
	l := build(t, strings.Repeat("[,:]", 40), 1)
	in := api.Span{From: 3, To: 150}
	for _, call := range []func(api.Levels, int, api.Span) []int{Colons, Commas} {
		a, want := call(l, 1, in), call(l, 1, in)
		room := a[:cap(a)]
		for i := range room {
			room[i] = -9
		}
		if got := call(l, 1, in); !slices.Equal(got, want) {
			t.Error(got, want)
		}
	}
}

func TestLevelsAreLeftAsTheyWere(t *testing.T) {
	words := []uint64{9, 1, 5, 7}
	rows := []api.Bits{{Len: 70, Words: words[:2]}, {Len: 64, Words: words[2:3]}, {Len: 3, Words: words[3:]}}
	l := api.Levels{Colons: rows[:1], Commas: rows[:2]}
	for level := -1; level < 4; level++ {
		for _, in := range everySpan([]int{-1, 0, 1, 3, 63, 64, 70, 99}) {
			Colons(l, level, in)
			Commas(l, level, in)
		}
	}
	if !slices.Equal(words, []uint64{9, 1, 5, 7}) || len(l.Colons) != 1 || len(l.Commas) != 2 || rows[2].Len != 3 || len(rows[2].Words) != 1 || rows[0].Len != 70 || rows[1].Len != 64 {
		t.Error(words, rows)
	}
}

func TestBehindARefusal(t *testing.T) {
	want := build(t, sample, 3)
	if _, e := Build(sample, 65); e != api.ErrRange {
		t.Fatal(e)
	}
	if got := build(t, sample, 3); !sameLevels(got, want) {
		t.Error(got, want)
	}
}

func TestTheSameWhateverElseRuns(t *testing.T) {
	r := rule(3)
	var crew sync.WaitGroup
	for _, of := range mixes() {
		s := r.text(300, of)
		want := plain(s)
		l := build(t, s, 64)
		for range 4 {
			crew.Add(1)
			go func() {
				defer crew.Done()
				for i := range 40 {
					if got, e := Build(s, 64); e != api.OK || !sameLevels(got, l) {
						t.Error("Build", i)
					}
					if !slices.Equal(Colons(l, 1, api.Span{To: len(s)}), at(want.colons, 1)) || !slices.Equal(Commas(l, 2, api.Span{To: len(s)}), at(want.commas, 2)) {
						t.Error("places", i)
					}
					if Depth(s, 7*i) != want.ahead(7*i) || Close(s, 7*i) != want.closed(7*i) {
						t.Error("Depth, Close", i)
					}
				}
			}()
		}
	}
	crew.Wait()
}

func ExampleBuild() {
	l, err := Build(`{"a":[1,2],"b:":3}`, 2)
	fmt.Println(err == api.OK, len(l.Colons), len(l.Commas))
	fmt.Println(Colons(l, 1, api.Span{From: 0, To: 18}), Commas(l, 2, api.Span{From: 0, To: 18}))
	// Output:
	// true 2 2
	// [4 15] [7]
}

func ExampleDepth() {
	fmt.Println(Depth(`{"a":[1,2],"b:":3}`, 6), Depth(`"["`, 2))
	// Output: 2 0
}

func ExampleClose() {
	fmt.Println(Close(`{"a":[1,2],"b:":3}`, 5), Close("[[]", 0))
	// Output: 9 -1
}
