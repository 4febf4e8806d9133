package quotes

import (
	"fmt"
	"iter"
	"math"
	"slices"
	"strings"
	"sync"
	"testing"

	"quarry/api"
	"quarry/bitmap"
	"quarry/escape"
)

var lens = []int{0, 1, 2, 3, 62, 63, 64, 65, 66, 126, 127, 128, 129, 130, 191, 192, 193, 256}

// edges: the ends of words, and what is beside them.
var edges = []int{62, 63, 64, 65, 126, 127, 128, 129}

// told: what the chapter's words say of a text, place by place.
type told struct {
	marks, inside []bool
	open          bool
	control       int
	texts         []api.Span
}

func plain(s string) told {
	x := told{control: -1}
	escaped, count := false, 0
	for i := range len(s) {
		mark := s[i] == 34 && !escaped
		escaped = s[i] == 92 && !escaped
		if mark {
			count++
		}
		if mark && count%2 == 1 {
			// To is the length for as long as no closing mark has come.
			x.texts = append(x.texts, api.Span{From: i + 1, To: len(s)})
		}
		if mark && count%2 == 0 {
			x.texts[len(x.texts)-1].To = i
		}
		if count%2 == 1 && s[i] < 32 && x.control < 0 {
			x.control = i
		}
		x.marks = append(x.marks, mark)
		x.inside = append(x.inside, count%2 == 1)
	}
	x.open = count%2 == 1
	return x
}

// row: the row of bits that has so many bits and no more, by doubling alone, so that a wrong shift can't agree with itself.
func row(list []bool) api.Bits {
	b := api.Bits{Len: len(list)}
	for i, is := range list {
		if i%64 == 0 {
			b.Words = append(b.Words, 0)
		}
		if is {
			var worth uint64 = 1
			for range i % 64 {
				worth *= 2
			}
			b.Words[i/64] += worth
		}
	}
	return b
}

func same(a, b api.Bits) bool { return a.Len == b.Len && slices.Equal(a.Words, b.Words) }

func places(b api.Bits) []int { return slices.Collect(bitmap.Each(b)) }

// check: all five calls against the chapter's words.
func check(t *testing.T, s string) {
	t.Helper()
	want := plain(s)
	if got, want := Marks(s), row(want.marks); !same(got, want) {
		t.Fatalf("Marks(%q): %x, not %x", s, got, want)
	}
	if got, want := Inside(s), row(want.inside); !same(got, want) {
		t.Fatalf("Inside(%q): %x, not %x", s, got, want)
	}
	if got := Open(s); got != want.open {
		t.Fatalf("Open(%q): %v", s, got)
	}
	if got := Control(s); got != want.control {
		t.Fatalf("Control(%q): %d, not %d", s, got, want.control)
	}
	if got := slices.Collect(Texts(s)); !slices.Equal(got, want.texts) {
		t.Fatalf("Texts(%q): %v, not %v", s, got, want.texts)
	}
}

// rule: ordinary numbers from a fixed rule.
type rule uint64

func (r *rule) below(n int) int {
	*r = *r*6364136223846793005 + 1442695040888963407
	return int((uint64(*r) ^ uint64(*r)>>29) % uint64(n))
}

// others: bytes that are neither a quote nor a backslash: those beside the two, control bytes and the one above them, and such as differ in the highest bit alone.
const others = "abu{}[]:,0 !#'\x00\x01\n\x1e\x1f\x5b\x5d\x7f\x80\x9f\xa2\xdc\xff"

// mixed: n bytes, of twenty so many quotes and so many backslashes.
func (r *rule) mixed(n, marks, slashes int) string {
	var b strings.Builder
	for range n {
		switch k := r.below(20); {
		case k < marks:
			b.WriteByte('"')
		case k < marks+slashes:
			b.WriteByte('\\')
		default:
			b.WriteByte(others[r.below(len(others))])
		}
	}
	return b.String()
}

func filled(n int, x byte) string { return strings.Repeat(string([]byte{x}), n) }

func slashes(n int) string { return strings.Repeat("\\", n) }

// laid: a piece from a place on, in a text of so many bytes that are all else fill.
func laid(length, at int, piece string, fill byte) string {
	b := []byte(filled(length, fill))
	copy(b[at:], piece)
	return string(b)
}

// atEdges: quotes, and rows of backslashes, odd and even in number, ahead of a quote, that stand at, end at and lie over the ends of words; with a mark far ahead of them and with none.
func atEdges() []string {
	var list []string
	for _, edge := range edges {
		for _, n := range []int{0, 1, 2, 3, 4, 5, 62, 63, 64, 65, 66} {
			for _, at := range []int{edge, edge - 1, edge - n/2, edge - n - 1, edge - n, edge - n + 1} {
				if at < 0 {
					continue
				}
				for _, piece := range []string{slashes(n) + `"`, slashes(n) + `""`, `"` + slashes(n) + `"`, slashes(n) + `n"`, slashes(n) + "\"\x1f"} {
					for _, more := range []int{0, 1, 70} {
						s := laid(at+len(piece)+more, at, piece, 'a')
						list = append(list, s, laid(at+len(piece)+more, at, piece, 0xa2), laid(at+len(piece)+more, at, piece, '\n'))
						if at > 0 {
							list = append(list, `"`+s[1:], s+`"`)
						}
					}
				}
			}
		}
	}
	return list
}

// texts: the empty one; without a quote, of them alone, with one here and there; what lies at the ends of words; mixed ones, thin and thick.
func texts() []string {
	list := []string{"", `"`, `a`, `""`, `\"`, `"\"`, `"\\"`, `"""`, "\"\x00", "\x00\"", "\x1f\" \"\x1f", "{\"a\\\\\\\"b\": \"\\u0022\\n\"}", "\"\x80\"\xff\"\xa2\\\"\xdc"}
	for _, n := range lens {
		for _, fill := range []byte{'a', ' ', '"', '\\', 0, 31, 128, 0xa2, 0xdc, 255} {
			all := filled(n, fill)
			list = append(list, all, all+`"`, `"`+all, `"`+all+`"`, `"`+all+`""`+all+`"`+all, all+`"`+all)
			for _, at := range []int{0, 1, 62, 63, 64, 65, 127, 128, n / 2, n - 2, n - 1} {
				if at >= 0 && at < n {
					list = append(list, laid(n, at, `"`, fill), laid(n, at, `\`, fill), laid(n, at, `""`, fill), laid(n, at, `\"`, fill), laid(n, at, `a`, fill))
				}
			}
		}
		list = append(list, strings.Repeat(`"a`, n), strings.Repeat(`\"`, n), strings.Repeat(`\\"`, n), strings.Repeat(`"\""`, n), strings.Repeat(`"",`, n))
		r := rule(n)
		for _, of := range [][2]int{{0, 0}, {1, 0}, {1, 1}, {3, 3}, {8, 2}, {2, 10}, {14, 5}, {9, 0}} {
			list = append(list, r.mixed(n, of[0], of[1]), r.mixed(n, of[0], of[1]))
		}
	}
	return append(list, atEdges()...)
}

// short: every text of at most n bytes of these.
func short(n int, of string) []string {
	list := []string{""}
	for i := 0; len(list[i]) < n; i++ {
		for k := range len(of) {
			list = append(list, list[i]+of[k:k+1])
		}
	}
	return list
}

// The chapter's examples, row by row, and each way in which they are told.
func TestExamples(t *testing.T) {
	blanks := strings.Repeat(" ", 63)
	for _, x := range []struct {
		s             string
		marks, inside []int
		open          bool
		control       int
		texts         []api.Span
	}{
		{`"a\"b",c`, []int{0, 5}, []int{0, 1, 2, 3, 4}, false, -1, []api.Span{{From: 1, To: 5}}},
		{`\"a"`, []int{3}, []int{3}, true, -1, []api.Span{{From: 4, To: 4}}},
		{`\\"a"`, []int{2, 4}, []int{2, 3}, false, -1, []api.Span{{From: 3, To: 4}}},
		{"\"a\nb\"", []int{0, 4}, []int{0, 1, 2, 3}, false, 2, []api.Span{{From: 1, To: 4}}},
		{"\n\"a\"", []int{1, 3}, []int{1, 2}, false, -1, []api.Span{{From: 2, To: 3}}},
		{"\"\x1f", []int{0}, []int{0, 1}, true, 1, []api.Span{{From: 1, To: 2}}},
		{"", nil, nil, false, -1, nil},
		{`""`, []int{0, 1}, []int{0}, false, -1, []api.Span{{From: 1, To: 1}}},
		{`"a""b`, []int{0, 2, 3}, []int{0, 1, 3, 4}, true, -1, []api.Span{{From: 1, To: 2}, {From: 4, To: 5}}},
		{blanks + `"a`, []int{63}, []int{63, 64}, true, -1, []api.Span{{From: 64, To: 65}}},
	} {
		if b := Marks(x.s); b.Len != len(x.s) || !slices.Equal(places(b), x.marks) {
			t.Errorf("Marks(%q): %v", x.s, b)
		}
		if b := Inside(x.s); b.Len != len(x.s) || !slices.Equal(places(b), x.inside) {
			t.Errorf("Inside(%q): %v", x.s, b)
		}
		if Open(x.s) != x.open {
			t.Errorf("Open(%q): %v", x.s, !x.open)
		}
		if at := Control(x.s); at != x.control {
			t.Errorf("Control(%q): %d", x.s, at)
		}
		if list := slices.Collect(Texts(x.s)); !slices.Equal(list, x.texts) {
			t.Errorf("Texts(%q): %v", x.s, list)
		}
	}
}

// All five calls.

func TestOfTexts(t *testing.T) {
	for _, s := range texts() {
		check(t, s)
	}
}

func TestOfShortTexts(t *testing.T) {
	for _, s := range short(7, "\"\\a\n") {
		// Ahead of it what leaves it as it is, so that it lies over the ends of words as well.
		for _, n := range []int{0, 60, 124} {
			check(t, strings.Repeat("b", n)+s)
		}
	}
}

func TestOfEveryByte(t *testing.T) {
	for x := range 256 {
		one := string([]byte{byte(x)})
		for _, s := range []string{one, `"` + one, one + `"`, `"` + one + `"`, `\` + one, `\` + one + `"`, `"\` + one + `"`, `"\\` + one + `"`, filled(63, 'a') + one + `"`, `"` + filled(62, 'a') + one + `"`, `"` + filled(63, 'a') + one, filled(130, byte(x))} {
			check(t, s)
		}
	}
}

func TestOfMixedTexts(t *testing.T) {
	r := rule(7)
	for n := range 420 {
		check(t, r.mixed(n, 1+n%9, n%7))
	}
}

// A row that is made has at most MaxBits bits; of a text no such bound is told.
func TestOfALongText(t *testing.T) {
	n := api.MaxBits + 65
	b := []byte(strings.Repeat("a", n))
	marks := []int{5, 63, 4000, api.MaxBits - 1, api.MaxBits + 2, api.MaxBits + 62, api.MaxBits + 63}
	for _, at := range marks {
		b[at] = '"'
	}
	b[7000], b[7001] = '\\', '"'
	// Between the second mark and the third it is outside.
	b[100], b[n-1] = '\n', '\n'
	s := string(b)
	if got := Marks(s); got.Len != n || !bitmap.Formed(got) || !slices.Equal(places(got), marks) {
		t.Errorf("%d bits, %v", got.Len, places(got))
	}
	inside := Inside(s)
	if inside.Len != n || !bitmap.Formed(inside) || bitmap.Count(inside, 0, n) != 58+api.MaxBits-1-4000+60+2 {
		t.Errorf("%d bits, %d set", inside.Len, bitmap.Count(inside, 0, n))
	}
	if !Open(s) || Control(s) != n-1 {
		t.Errorf("%v, %d", Open(s), Control(s))
	}
	want := []api.Span{{From: 6, To: 63}, {From: 4001, To: api.MaxBits - 1}, {From: api.MaxBits + 3, To: api.MaxBits + 62}, {From: api.MaxBits + 64, To: n}}
	if list := slices.Collect(Texts(s)); !slices.Equal(list, want) {
		t.Errorf("%v", list)
	}
}

// P7.1

func TestRowsAreFormed(t *testing.T) {
	for _, s := range texts() {
		for _, b := range []api.Bits{Marks(s), Inside(s)} {
			if !bitmap.Formed(b) || b.Len != len(s) || len(b.Words) != (len(s)+63)/64 {
				t.Fatalf("%q: %x", s, b)
			}
		}
	}
}

// An open text ends inside, and of each length no bit is set behind it.
func TestInsideOfATextThatEndsOpen(t *testing.T) {
	for n := 1; n <= 200; n++ {
		for _, at := range []int{0, 1, 63, 64, 127, 128, n / 2, n - 2, n - 1} {
			if at < 0 || at >= n {
				continue
			}
			b := Inside(laid(n, at, `"`, 'a'))
			if !bitmap.Formed(b) || b.Len != n || bitmap.Count(b, 0, n) != n-at || bitmap.Next(b, 0) != at {
				t.Fatalf("a quote at %d of %d: %x", at, n, b)
			}
		}
	}
}

func TestNoQuote(t *testing.T) {
	for _, n := range lens {
		for x := range 256 {
			s := filled(n, byte(x))
			if x == 34 {
				continue
			}
			if bitmap.Next(Marks(s), 0) != -1 || bitmap.Next(Inside(s), 0) != -1 || Open(s) || Control(s) != -1 {
				t.Fatalf("%d bytes %d", n, x)
			}
			for span := range Texts(s) {
				t.Fatalf("%d bytes %d: %v", n, x, span)
			}
		}
	}
}

func TestQuotesAlone(t *testing.T) {
	for n := range 260 {
		s := filled(n, '"')
		marks, inside := Marks(s), Inside(s)
		if bitmap.Count(marks, 0, n) != n || bitmap.Count(inside, 0, n) != (n+1)/2 {
			t.Fatalf("%d quotes: %x, %x", n, marks, inside)
		}
		for i := range n {
			if bitmap.Get(inside, i) != (i%2 == 0) {
				t.Fatalf("%d quotes: the place %d", n, i)
			}
		}
		k := 0
		for span := range Texts(s) {
			if span != (api.Span{From: 2*k + 1, To: 2*k + 1}) {
				t.Fatalf("%d quotes: %v", n, span)
			}
			k++
		}
		if k != (n+1)/2 || Open(s) != (n%2 == 1) {
			t.Fatalf("%d quotes: %d spans", n, k)
		}
	}
}

// A backslash counts wherever it stands, outside too; a row of them leaves a quote a mark just if they are even in number.
func TestMarksBehindBackslashes(t *testing.T) {
	for _, edge := range []int{0, 1, 63, 64, 127, 128} {
		for n := range 140 {
			for _, ahead := range []string{"", `"`} {
				s := ahead + filled(edge, 'a') + slashes(n) + `"`
				b := Marks(s)
				if got := bitmap.Get(b, len(s)-1); got != (n%2 == 0) {
					t.Fatalf("%q, %d others, %d backslashes: %v", ahead, edge, n, got)
				}
				if bitmap.Count(b, 0, len(s)-1) != len(ahead) {
					t.Fatalf("%q, %d others, %d backslashes: %x", ahead, edge, n, b)
				}
			}
		}
	}
}

// What is carried over the end of a word goes on through words without a mark.
func TestInsideOverSeveralWords(t *testing.T) {
	for _, from := range []int{0, 1, 62, 63, 64, 65, 127, 128} {
		for _, to := range []int{from + 1, from + 2, 64, 128, 191, 192, 193, 255, 256, 300} {
			if to <= from {
				continue
			}
			b := []byte(filled(400, 'a'))
			b[from], b[to] = '"', '"'
			s := string(b)
			inside := Inside(s)
			for i := range len(s) {
				if bitmap.Get(inside, i) != (i >= from && i < to) {
					t.Fatalf("from %d to %d: the place %d", from, to, i)
				}
			}
			if list := slices.Collect(Texts(s)); !slices.Equal(list, []api.Span{{From: from + 1, To: to}}) {
				t.Fatalf("from %d to %d: %v", from, to, list)
			}
		}
	}
}

// P7.2

func TestOpenAtEachBeginning(t *testing.T) {
	for _, s := range []string{`{"a":"b\"c","d\\":["",""]}`, strings.Repeat(`"ab\"c", `, 30), filled(63, ' ') + `"" "x" "`} {
		count := 0
		for n := range len(s) + 1 {
			if n > 0 && plain(s).marks[n-1] {
				count++
			}
			if got := Open(s[:n]); got != (count%2 == 1) {
				t.Fatalf("Open(%q): %v", s[:n], got)
			}
		}
	}
}

func TestOpenIsHowTheTextEnds(t *testing.T) {
	for _, s := range texts() {
		if s != "" && Open(s) != bitmap.Get(Inside(s), len(s)-1) {
			t.Fatalf("%q", s)
		}
	}
}

// P7.3

// At each place of a text with one span: what stands at the marks' own places, at the first and the last place inside, and beside them.
func TestControlAtEachPlace(t *testing.T) {
	for _, from := range []int{0, 1, 61, 62, 63, 64, 65, 127, 128} {
		for _, to := range []int{from + 1, from + 2, from + 3, from + 64, from + 65, 191, 192, 193} {
			for _, x := range []byte{0, 1, 9, 10, 30, 31, 32, 33, 127, 128, 159, 160} {
				for _, at := range []int{0, from - 1, from + 1, from + 2, to - 1, to + 1, to + 2, 63, 64, 127, 128} {
					if at < 0 || at == from || at == to {
						continue
					}
					b := []byte(filled(200, 'a'))
					b[from], b[to], b[at] = '"', '"', x
					want := -1
					if at > from && at < to && x < 32 {
						want = at
					}
					if got := Control(string(b)); got != want {
						t.Fatalf("the byte %d at %d, the span %d to %d: %d", x, at, from+1, to, got)
					}
				}
			}
		}
	}
}

// In place of a mark: without the opening one its closing one opens, and without the closing one the rest is inside.
func TestControlAtTheMarksOwnPlaces(t *testing.T) {
	for _, from := range []int{0, 1, 62, 63, 64, 127, 128} {
		for _, to := range []int{from + 1, from + 2, from + 64, 192} {
			for _, x := range []byte{0, 31, 32} {
				s := laid(200, from, `"`, 'a')
				closed := s[:to] + `"` + s[to+1:]
				if got := Control(closed[:from] + string([]byte{x}) + closed[from+1:]); got != -1 {
					t.Fatalf("the byte %d in place of the mark at %d: %d", x, from, got)
				}
				want := -1
				if x < 32 {
					want = to
				}
				if got := Control(s[:to] + string([]byte{x}) + s[to+1:]); got != want {
					t.Fatalf("the byte %d in place of the mark at %d: %d", x, to, got)
				}
			}
		}
	}
}

func TestControlTellsTheFirst(t *testing.T) {
	for _, at := range []int{1, 2, 62, 63, 64, 65, 127, 128, 190} {
		for _, next := range []int{at + 1, at + 2, at + 63, at + 64, at + 100} {
			b := []byte(filled(300, ' '))
			b[0], b[at], b[next] = '"', 31, 0
			if got := Control(string(b)); got != at {
				t.Fatalf("%d and %d: %d", at, next, got)
			}
		}
	}
}

// Control bytes outside don't count, neither ahead of one that is inside nor between two spans.
func TestControlOutside(t *testing.T) {
	for _, n := range []int{1, 2, 62, 63, 64, 65, 127, 128, 129} {
		out := filled(n, '\n')
		if got := Control(out + `"a"` + out + `""` + out); got != -1 {
			t.Fatalf("%d outside: %d", n, got)
		}
		if got := Control(out + `"a"` + out + "\"\t\"" + out); got != 2*n+4 {
			t.Fatalf("%d outside: %d", n, got)
		}
	}
}

// An escaped quote ends nothing, so what is behind it is inside; a control byte that is escaped is one all the same.
func TestControlBehindABackslash(t *testing.T) {
	for _, n := range []int{0, 59, 60, 61, 62, 63, 124, 125, 126} {
		ahead := filled(n, ' ')
		if got := Control(ahead + "\"\\\"\n"); got != n+3 {
			t.Fatalf("%d blanks: %d", n, got)
		}
		if got := Control(ahead + "\"\\\\\"\n"); got != -1 {
			t.Fatalf("%d blanks: %d", n, got)
		}
		if got := Control(ahead + "\"\\\n\""); got != n+2 {
			t.Fatalf("%d blanks: %d", n, got)
		}
		if got := Control(ahead + "\\\"\n"); got != -1 {
			t.Fatalf("%d blanks: %d", n, got)
		}
	}
}

// Of every length: what lies behind the end of the last word's bytes is no byte of the text.
func TestControlOfAnOpenText(t *testing.T) {
	for n := range 200 {
		s := `"` + filled(n, 'a')
		if Control(s) != -1 || Control(s+"\x00") != n+1 {
			t.Fatalf("%d bytes", n)
		}
	}
}

// P7.4

// manySpans: texts with many spans, those of no bytes and those one behind the other among them.
var manySpans = []string{"", `"`, `""`, `"a""b`, `"""`, strings.Repeat(`""`, 70), strings.Repeat(`"a" `, 50) + `"`, `{"a\"":["b\\","",""],"c":"` + filled(150, 'd') + `","e`, strings.Repeat(`"`+filled(64, 'x')+`"`, 4)}

func TestTextsLeftAfterEachSpan(t *testing.T) {
	for _, s := range manySpans {
		want := plain(s).texts
		seq := Texts(s)
		for n := 1; n <= len(want); n++ {
			var got []api.Span
			for span := range seq {
				got = append(got, span)
				if len(got) == n {
					break
				}
			}
			if !slices.Equal(got, want[:n]) {
				t.Fatalf("%q, left after %d: %v", s, n, got)
			}
		}
		// Those that were left leave the next round whole.
		if got := slices.Collect(seq); !slices.Equal(got, want) {
			t.Fatalf("%q: %v", s, got)
		}
	}
}

// No span is told behind the one at which a round was left.
func TestTextsTellsNothingBehindTheLast(t *testing.T) {
	for _, s := range manySpans {
		calls := 0
		Texts(s)(func(api.Span) bool {
			calls++
			return false
		})
		if calls != min(1, len(plain(s).texts)) {
			t.Errorf("%q: %d calls", s, calls)
		}
	}
}

func TestTextsBegunAgain(t *testing.T) {
	for _, s := range manySpans {
		seq := Texts(s)
		for round := range 3 {
			if got := slices.Collect(seq); !slices.Equal(got, plain(s).texts) {
				t.Fatalf("%q, round %d: %v", s, round, got)
			}
		}
	}
}

func TestTextsWithinThemselves(t *testing.T) {
	for _, s := range manySpans {
		want := plain(s).texts
		seq := Texts(s)
		var outer []api.Span
		for span := range seq {
			outer = append(outer, span)
			if got := slices.Collect(seq); !slices.Equal(got, want) {
				t.Fatalf("%q, within %v: %v", s, span, got)
			}
		}
		if !slices.Equal(outer, want) {
			t.Fatalf("%q: %v", s, outer)
		}
	}
}

func TestTextsInTwoRoundsAtOneTime(t *testing.T) {
	seq := Texts(`"a" "b" "c`)
	next, stop := iter.Pull(seq)
	defer stop()
	later, stopLater := iter.Pull(seq)
	defer stopLater()
	next()
	for _, want := range []api.Span{{From: 5, To: 6}, {From: 9, To: 10}} {
		if got, ok := next(); !ok || got != want {
			t.Errorf("%v, not %v", got, want)
		}
	}
	if got, ok := later(); !ok || got != (api.Span{From: 1, To: 2}) {
		t.Errorf("the other round: %v", got)
	}
	if got, ok := next(); ok {
		t.Errorf("behind the last: %v", got)
	}
}

// P7.5

func TestInsideIsPrefixOfMarks(t *testing.T) {
	for _, s := range texts() {
		prefix, err := bitmap.Prefix(Marks(s))
		if err != api.OK || !same(prefix, Inside(s)) {
			t.Fatalf("%q", s)
		}
	}
}

func TestInsideIsOpeningMarksAndSpans(t *testing.T) {
	for _, s := range texts() {
		marks := Marks(s)
		list := make([]bool, len(s))
		end := 0
		for span := range Texts(s) {
			if span.From <= end && end > 0 || span.From < 1 || span.To < span.From || span.To > len(s) {
				t.Fatalf("%q: %v behind %d", s, span, end)
			}
			if !bitmap.Get(marks, span.From-1) || span.To < len(s) && !bitmap.Get(marks, span.To) || bitmap.Count(marks, span.From, span.To) != 0 {
				t.Fatalf("%q: the marks of %v", s, span)
			}
			for i := span.From - 1; i < span.To; i++ {
				list[i] = true
			}
			end = span.To
		}
		if !same(Inside(s), row(list)) {
			t.Fatalf("%q", s)
		}
	}
}

// twoTexts: the first one open or not, with an end that escapes and one that doesn't, up to and over the end of a word; the other one of any kind.
func twoTexts() [][2]string {
	firsts := []string{"", `"`, `""`, `\`, `"\`, `\\`, `"\\`, `"a" `, `"a\"`, `\"`, filled(63, 'a'), `"` + filled(62, 'a'), filled(64, 'a'), `"` + filled(63, 'a'), `"` + filled(62, 'a') + `\`, `"` + filled(63, 'a') + `\`, filled(62, 'a') + `\\`, `"` + filled(61, 'a') + `\\`, slashes(64), slashes(65), `"` + filled(126, 'b'), `"` + filled(127, 'b')}
	nexts := []string{"", `"`, `a`, `\`, `""`, `\"`, `"a"`, `a"b"`, `\\"`, `"\"x"`, slashes(63) + `"`, slashes(64) + `"`, filled(63, 'c') + `"`, filled(64, 'c') + `"`, filled(130, '"'), strings.Repeat(`"x\"" `, 30)}
	var list [][2]string
	for _, s := range firsts {
		for _, t := range nexts {
			list = append(list, [2]string{s, t})
		}
	}
	r := rule(75)
	for n := range 200 {
		list = append(list, [2]string{r.mixed(n, 4, 5), r.mixed(r.below(200), 4, 5)})
	}
	return list
}

func TestTwoTextsOneBehindTheOther(t *testing.T) {
	seen := map[[2]bool]int{}
	for _, x := range twoTexts() {
		s, next := x[0], x[1]
		marks, inside := Marks(s+next), Inside(s+next)
		for i := range len(s) {
			if bitmap.Get(marks, i) != bitmap.Get(Marks(s), i) || bitmap.Get(inside, i) != bitmap.Get(Inside(s), i) {
				t.Fatalf("%q and %q: the place %d", s, next, i)
			}
		}
		seen[[2]bool{Open(s), escape.Behind(s, false)}]++
		if escape.Behind(s, false) {
			continue
		}
		for i := range len(next) {
			if bitmap.Get(marks, len(s)+i) != bitmap.Get(Marks(next), i) {
				t.Fatalf("%q and %q: is %d a mark?", s, next, len(s)+i)
			}
			if bitmap.Get(inside, len(s)+i) != (bitmap.Get(Inside(next), i) != Open(s)) {
				t.Fatalf("%q and %q: is %d inside?", s, next, len(s)+i)
			}
		}
	}
	if len(seen) != 4 {
		t.Errorf("not every kind of first text: %v", seen)
	}
}

// Where the first one's end escapes, the first byte of the other one is no mark, and all behind it goes on as if it were any byte.
func TestATextBehindAnEndThatEscapes(t *testing.T) {
	for _, x := range twoTexts() {
		s, next := x[0], x[1]
		if !escape.Behind(s, false) || next == "" {
			continue
		}
		rest := next[1:]
		marks := Marks(s + next)
		if bitmap.Get(marks, len(s)) {
			t.Fatalf("%q and %q", s, next)
		}
		for i := range len(rest) {
			if bitmap.Get(marks, len(s)+1+i) != bitmap.Get(Marks(rest), i) {
				t.Fatalf("%q and %q: is %d a mark?", s, next, len(s)+1+i)
			}
		}
	}
}

// Memory, Sameness

// spoil: all that the caller of a call may write into its answer, the room behind it too.
func spoil(b api.Bits) {
	room := b.Words[:cap(b.Words)]
	for i := range room {
		room[i] = math.MaxUint64 - room[i]
	}
}

func TestAnswersLieApart(t *testing.T) {
	for _, s := range []string{"", `"a"`, filled(64, '"'), filled(65, '"'), `"` + filled(200, 'a'), strings.Repeat(`"\"" `, 60)} {
		want := plain(s)
		marks, inside, spans := Marks(s), Inside(s), Texts(s)
		spoil(Marks(s))
		spoil(Inside(s))
		if !same(marks, row(want.marks)) || !same(inside, row(want.inside)) {
			t.Errorf("%q: an answer was written over by another one", s)
		}
		spoil(marks)
		if !same(inside, row(want.inside)) {
			t.Errorf("%q: Inside was written over with Marks", s)
		}
		spoil(inside)
		if got := slices.Collect(spans); !slices.Equal(got, want.texts) {
			t.Errorf("%q: the spans hang on an answer: %v", s, got)
		}
		check(t, s)
	}
}

func TestTheSameWhateverElseRuns(t *testing.T) {
	list := texts()[:200]
	shared := Texts(manySpans[6])
	var all sync.WaitGroup
	for k := range 4 {
		all.Go(func() {
			for i := range list {
				s := list[(i*7+k)%len(list)]
				want := plain(s)
				if !same(Marks(s), row(want.marks)) || !same(Inside(s), row(want.inside)) || Control(s) != want.control {
					t.Errorf("%q", s)
				}
			}
			if !slices.Equal(slices.Collect(shared), plain(manySpans[6]).texts) {
				t.Error("the spans that all go through")
			}
		})
	}
	all.Wait()
}

func ExampleMarks() {
	for at := range bitmap.Each(Marks(`"a\"b",c`)) {
		fmt.Println(at)
	}
	// Output:
	// 0
	// 5
}

func ExampleControl() {
	fmt.Println(Control("\"a\nb\""))
	fmt.Println(Control("\n\"a\""))
	// Output:
	// 2
	// -1
}

func ExampleTexts() {
	s := `{"a": "b\"c", "d`
	for span := range Texts(s) {
		fmt.Println(s[span.From:span.To])
	}
	// Output:
	// a
	// b\"c
	// d
}
