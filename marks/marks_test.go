package marks

import (
	"fmt"
	"iter"
	"math"
	"slices"
	"strings"
	"sync"
	"testing"

	"quarry/api"
	"quarry/bitmap"
	"quarry/escape"
	"quarry/quotes"
)

var lens = []int{0, 1, 2, 3, 62, 63, 64, 65, 66, 126, 127, 128, 129, 130, 191, 192, 193, 256}

// edges: the ends of words of bits, and what is beside them.
var edges = []int{62, 63, 64, 65, 126, 127, 128, 129}

// sorts: what each byte of a text is by the chapter's words: an opening mark ", a closing one ', inside and no mark i, structural s, a blank b, a word byte w.
func sorts(s string) string {
	var list strings.Builder
	escaped, count := false, 0
	for i := range len(s) {
		mark := s[i] == 34 && !escaped
		escaped = s[i] == 92 && !escaped
		if mark {
			count++
		}
		switch x := s[i]; {
		case mark && count%2 == 1:
			list.WriteByte('"')
		case mark:
			list.WriteByte('\'')
		case count%2 == 1:
			list.WriteByte('i')
		case x == 123 || x == 125 || x == 91 || x == 93 || x == 58 || x == 44:
			list.WriteByte('s')
		case x == 32 || x == 9 || x == 10 || x == 13:
			list.WriteByte('b')
		default:
			list.WriteByte('w')
		}
	}
	return list.String()
}

// told: what the chapter's words say of a text.
type told struct {
	index  []int
	blanks []bool
	kinds  []byte
	words  []api.Span
	small  string
}

func plain(s string) told {
	var x told
	sort := sorts(s)
	var small strings.Builder
	for i := range len(s) {
		var kind byte
		switch first := i == 0 || sort[i-1] != 'w'; {
		case sort[i] == 's':
			kind = s[i]
		case sort[i] == '"':
			kind = 34
		case sort[i] == 'w' && first:
			kind = 119
			x.words = append(x.words, api.Span{From: i, To: i + 1})
		case sort[i] == 'w':
			x.words[len(x.words)-1].To = i + 1
		}
		if kind != 0 {
			x.index = append(x.index, i)
		}
		if sort[i] != 'b' {
			small.WriteByte(s[i])
		}
		x.kinds = append(x.kinds, kind)
		x.blanks = append(x.blanks, sort[i] == 'b')
	}
	x.small = small.String()
	return x
}

// row: the row of bits that has so many bits and no more, by doubling alone, so that a wrong shift can't agree with itself.
func row(list []bool) api.Bits {
	b := api.Bits{Len: len(list)}
	for i, is := range list {
		if i%64 == 0 {
			b.Words = append(b.Words, 0)
		}
		if is {
			var worth uint64 = 1
			for range i % 64 {
				worth *= 2
			}
			b.Words[i/64] += worth
		}
	}
	return b
}

func same(a, b api.Bits) bool { return a.Len == b.Len && slices.Equal(a.Words, b.Words) }

// check: all calls but Kind against the chapter's words.
func check(t *testing.T, s string) {
	t.Helper()
	want := plain(s)
	if got := Index(s); !slices.Equal(got, want.index) {
		t.Fatalf("Index(%q): %v, not %v", s, got, want.index)
	}
	if got, want := Blanks(s), row(want.blanks); !same(got, want) {
		t.Fatalf("Blanks(%q): %x, not %x", s, got, want)
	}
	if got := slices.Collect(Words(s)); !slices.Equal(got, want.words) {
		t.Fatalf("Words(%q): %v, not %v", s, got, want.words)
	}
	if got := Minify(s); got != want.small {
		t.Fatalf("Minify(%q): %q, not %q", s, got, want.small)
	}
}

// checkKind: Kind at every place of a text, and at what is none.
func checkKind(t *testing.T, s string) {
	t.Helper()
	for at, want := range plain(s).kinds {
		if got := Kind(s, at); got != want {
			t.Fatalf("Kind(%q, %d): %q, not %q", s, at, got, want)
		}
	}
	for _, at := range []int{-1, -2, -64, -65, len(s), len(s) + 1, len(s) + 63, len(s) + 64, math.MaxInt, math.MaxInt - 1, math.MinInt, math.MinInt + 1} {
		if got := Kind(s, at); got != 0 {
			t.Fatalf("Kind(%q, %d): %q", s, at, got)
		}
	}
}

// rule: ordinary numbers from a fixed rule.
type rule uint64

func (r *rule) below(n int) int {
	*r = *r*6364136223846793005 + 1442695040888963407
	return int((uint64(*r) ^ uint64(*r)>>29) % uint64(n))
}

// others: word bytes: letters and digits, those beside the blanks and the structural ones, and such as differ from these in the highest bit alone.
const others = "abw09-.!#'|~z^+/;Z\x00\x08\x0b\x0c\x0e\x1f\x7f\x80\x89\x8a\x8d\xa0\xa2\xac\xba\xdb\xdc\xdd\xfb\xfd\xff"

// mixed: n bytes, of twenty so many quotes, backslashes, structural bytes and blanks.
func (r *rule) mixed(n int, of [4]int) string {
	sets := [4]string{`"`, `\`, "{}[]:,", " \t\n\r"}
	var b strings.Builder
	for range n {
		k, set := r.below(20), others
		for i := len(of) - 1; i >= 0; i-- {
			if k < of[i] {
				set = sets[i]
				break
			}
			k -= of[i]
		}
		b.WriteByte(set[r.below(len(set))])
	}
	return b.String()
}

// thick: how much of what a mixed text has, in turns.
var thick = [][4]int{{0, 0, 0, 0}, {1, 0, 0, 0}, {1, 1, 3, 3}, {3, 3, 3, 3}, {0, 0, 8, 8}, {0, 0, 1, 1}, {2, 10, 1, 1}, {0, 6, 4, 4}, {2, 0, 1, 12}, {6, 0, 6, 6}}

func filled(n int, x byte) string { return strings.Repeat(string([]byte{x}), n) }

func slashes(n int) string { return strings.Repeat("\\", n) }

// laid: a piece from a place on, in a text of so many bytes that are all else fill.
func laid(length, at int, piece string, fill byte) string {
	b := []byte(filled(length, fill))
	copy(b[at:], piece)
	return string(b)
}

// atEdges: pieces that begin at, end at and lie over the ends of words of bits, in what is else blank, structural, of a word, and inside.
func atEdges() []string {
	pieces := []string{`a`, `ab`, `abc`, `,`, `[]`, ` `, "\t\n", `"`, `""`, `"a"`, `a"b"c`, `\"`, `\\"`, `\`, "a b", "a,b", "a\x0bb", "\x80", `" , "`, `"\" "`}
	for _, n := range []int{62, 63, 64, 65, 66, 130} {
		pieces = append(pieces, filled(n, 'x'), filled(n, ','), filled(n, ' '), slashes(n)+`"`, `"`+filled(n, ' ')+`"`)
	}
	var list []string
	for _, edge := range edges {
		for _, piece := range pieces {
			for _, at := range []int{edge, edge - 1, edge - len(piece)/2, edge - len(piece), edge - len(piece) + 1} {
				if at < 0 {
					continue
				}
				for _, more := range []int{0, 1, 70} {
					for _, fill := range []byte{' ', ',', 'a', 0xa0} {
						list = append(list, laid(at+len(piece)+more, at, piece, fill))
					}
					if at > 0 {
						list = append(list, `"`+laid(at+len(piece)+more, at, piece, ' ')[1:])
					}
				}
			}
		}
	}
	return list
}

// texts: the empty one; of one kind of bytes alone, with others here and there; what lies at the ends of words of bits; mixed ones, thin and thick.
func texts() []string {
	list := []string{"", `"`, `a`, ` `, `,`, `\`, `""`, `\"`, `"\"`, `"\\"`, `"""`, `{"a\\\"b": [true, "\u0022 , \n", -1.5e3]}`, "\"\x80 \"\xff\"\xa2\\\"\xdc", "\\ \"a b\"", "a\\ b", `\"a,b\" c`, "\x00\x08 \x0b"}
	for _, n := range lens {
		for _, fill := range []byte{'a', ' ', '\t', '\n', '\r', ',', '[', '}', '"', '\\', 0, 31, 128, 0xa0, 255} {
			all := filled(n, fill)
			list = append(list, all, all+`"`, `"`+all, `"`+all+`"`, `"`+all+`"`+all+`"`+all, all+`"`+all, all+`a`, `a`+all, all+` a`, all+`,`+all)
			for _, at := range []int{0, 1, 62, 63, 64, 65, 127, 128, n / 2, n - 2, n - 1} {
				if at >= 0 && at < n {
					list = append(list, laid(n, at, `"`, fill), laid(n, at, `a`, fill), laid(n, at, ` `, fill), laid(n, at, `:`, fill), laid(n, at, `\`, fill), laid(n, at, `\"`, fill))
				}
			}
		}
		list = append(list, strings.Repeat(`"a`, n), strings.Repeat(`\" `, n), strings.Repeat(`a,`, n), strings.Repeat(`a `, n), strings.Repeat(`" ",`, n))
		r := rule(n)
		for _, of := range thick {
			list = append(list, r.mixed(n, of), r.mixed(n, of))
		}
	}
	return append(list, atEdges()...)
}

// short: every text of at most n bytes of these.
func short(n int, of string) []string {
	list := []string{""}
	for i := 0; len(list[i]) < n; i++ {
		for k := range len(of) {
			list = append(list, list[i]+of[k:k+1])
		}
	}
	return list
}

// The chapter's examples, row by row.

func TestExamplesOfIndex(t *testing.T) {
	for _, x := range []struct {
		s    string
		want []int
	}{
		{`{"a":[1,2]}`, []int{0, 1, 4, 5, 6, 7, 8, 9, 10}},
		{`true, null`, []int{0, 4, 6}},
		{`"a,b"`, []int{0}},
		{`"a" "b"1`, []int{0, 4, 7}},
		{`\"a`, []int{0}},
		{"12ab\n-3", []int{0, 5}},
		{`""`, []int{0}},
		{``, nil},
		{`a"b"c`, []int{0, 1, 4}},
	} {
		if got := Index(x.s); !slices.Equal(got, x.want) {
			t.Errorf("Index(%q): %v", x.s, got)
		}
	}
}

func TestExamplesOfBlanks(t *testing.T) {
	if got := Blanks("[ 1\n"); !same(got, api.Bits{Len: 4, Words: []uint64{0b1010}}) {
		t.Errorf("%v", got)
	}
	if got := Blanks(`" "`); !same(got, api.Bits{Len: 3, Words: []uint64{0}}) {
		t.Errorf("%v", got)
	}
}

func TestExamplesOfKind(t *testing.T) {
	for at, want := range map[int]byte{0: '{', 1: '"', 2: 0, 3: 0, 4: ':', 5: 'w', 6: '}', 7: 0, -1: 0} {
		if got := Kind(`{"a":1}`, at); got != want {
			t.Errorf("at %d: %q", at, got)
		}
	}
}

func TestExamplesOfWords(t *testing.T) {
	if got := slices.Collect(Words("[12, ab]")); !slices.Equal(got, []api.Span{{From: 1, To: 3}, {From: 5, To: 7}}) {
		t.Errorf("%v", got)
	}
	if got := slices.Collect(Words(`"12"`)); len(got) != 0 {
		t.Errorf("%v", got)
	}
}

func TestExamplesOfMinify(t *testing.T) {
	for s, want := range map[string]string{
		`{ "a b" : [ 1 , 2 ] }`: `{"a b":[1,2]}`,
		`1 2`:                   `12`,
		"\"a \n":                "\"a \n",
	} {
		if got := Minify(s); got != want {
			t.Errorf("Minify(%q): %q", s, got)
		}
	}
}

// All five calls.

func TestOfTexts(t *testing.T) {
	for i, s := range texts() {
		check(t, s)
		// At every place of each of them would take long.
		if len(s) < 70 || i%16 == 0 {
			checkKind(t, s)
		}
	}
}

func TestOfShortTexts(t *testing.T) {
	for _, s := range short(6, "\"\\a, ") {
		checkKind(t, s)
		// Ahead of it a text that ends, so that it lies over the ends of words of bits as well.
		for _, ahead := range []string{"", filled(60, ' '), filled(61, 'b'), filled(62, ']'), filled(124, ' '), filled(125, 'b')} {
			check(t, ahead+s)
		}
	}
}

func TestOfEveryByte(t *testing.T) {
	for x := range 256 {
		one := string([]byte{byte(x)})
		for _, s := range []string{one, one + one, `"` + one, one + `"`, `"` + one + `"`, `\` + one, `\` + one + `"`, `a` + one + `a`, ` ` + one + ` `, `,` + one + `,`, `"a"` + one + `"b"`, filled(63, ' ') + one, filled(63, 'a') + one + `a`, filled(64, 'a') + one + `"`, filled(130, byte(x))} {
			check(t, s)
			checkKind(t, s)
		}
	}
}

func TestOfMixedTexts(t *testing.T) {
	r := rule(8)
	for n := range 420 {
		s := r.mixed(n, thick[n%len(thick)])
		check(t, s)
		if n < 150 || n%10 == 0 {
			checkKind(t, s)
		}
	}
}

// A row that is made has at most MaxBits bits; of a text no such bound is told.
func TestOfALongText(t *testing.T) {
	n := api.MaxBits + 65
	b := []byte(filled(n, ' '))
	for at, piece := range map[int]string{5: "ab", 63: "cde", 4000: `" [,a"f`, api.MaxBits - 1: "gh", api.MaxBits + 10: "{", api.MaxBits + 60: "ijklm"} {
		copy(b[at:], piece)
	}
	s := string(b)
	if got := Index(s); !slices.Equal(got, []int{5, 63, 4000, 4006, api.MaxBits - 1, api.MaxBits + 10, api.MaxBits + 60}) {
		t.Errorf("%v", got)
	}
	if got := Blanks(s); got.Len != n || !bitmap.Formed(got) || bitmap.Count(got, 0, n) != n-20 {
		t.Errorf("%d bits, %d set", got.Len, bitmap.Count(got, 0, n))
	}
	want := []api.Span{{From: 5, To: 7}, {From: 63, To: 66}, {From: 4006, To: 4007}, {From: api.MaxBits - 1, To: api.MaxBits + 1}, {From: api.MaxBits + 60, To: n}}
	if got := slices.Collect(Words(s)); !slices.Equal(got, want) {
		t.Errorf("%v", got)
	}
	if got := Minify(s); got != `abcde" [,a"fgh{ijklm` {
		t.Errorf("%q", got)
	}
	if Kind(s, api.MaxBits+10) != '{' || Kind(s, api.MaxBits+60) != 'w' || Kind(s, n-1) != 0 {
		t.Error("Kind behind MaxBits")
	}
}

// P8.1

func TestIndexRises(t *testing.T) {
	for _, s := range texts() {
		last := -1
		for _, at := range Index(s) {
			if at <= last || at >= len(s) {
				t.Fatalf("Index(%q): %d behind %d", s, at, last)
			}
			last = at
		}
	}
}

func TestIndexOfOneKindAlone(t *testing.T) {
	for n := range 260 {
		if got := Index(filled(n, ' ')); len(got) != 0 {
			t.Fatalf("%d blanks: %v", n, got)
		}
		word := Index(filled(n, 'a'))
		if len(word) != min(n, 1) || n > 0 && word[0] != 0 {
			t.Fatalf("a word of %d bytes: %v", n, word)
		}
		each := Index(filled(n, ','))
		if len(each) != n {
			t.Fatalf("%d commas: %v", n, each)
		}
		for i, at := range each {
			if at != i {
				t.Fatalf("%d commas: %v", n, each)
			}
		}
		opening := Index(filled(n, '"'))
		if len(opening) != (n+1)/2 {
			t.Fatalf("%d quotes: %v", n, opening)
		}
		for i, at := range opening {
			if at != 2*i {
				t.Fatalf("%d quotes: %v", n, opening)
			}
		}
	}
}

// Of every byte alone: which begin something each, which begin one word, which nothing.
func TestWhichBytesAreWhat(t *testing.T) {
	for x := range 256 {
		s := filled(3, byte(x))
		want := []int{0}
		switch x {
		case '{', '}', '[', ']', ':', ',':
			want = []int{0, 1, 2}
		case '"':
			want = []int{0, 2}
		case ' ', '\t', '\n', '\r':
			want = nil
		}
		if got := Index(s); !slices.Equal(got, want) {
			t.Errorf("three bytes %d: %v", x, got)
		}
	}
}

// A mark, a structural byte and a blank end a word and let another one begin right behind.
func TestIndexAroundWords(t *testing.T) {
	for _, n := range []int{0, 1, 60, 61, 62, 63, 64, 124, 125, 126, 127, 128} {
		ahead := filled(n, ' ')
		for piece, want := range map[string][]int{
			"ab":        {0},
			",ab,":      {0, 1, 3},
			" ab ":      {1},
			"a,b":       {0, 1, 2},
			"a b":       {0, 2},
			`"x"ab"y"`:  {0, 3, 5},
			`ab"x"cd`:   {0, 2, 5},
			`ab""cd`:    {0, 2, 4},
			`"a b,c"d`:  {0, 7},
			`ab\"cd`:    {0},
			`ab\\"cd"e`: {0, 4, 8},
			"a\x0bb":    {0},
			"\x80\xff":  {0},
			`a"b`:       {0, 1},
		} {
			var all []int
			for _, at := range want {
				all = append(all, n+at)
			}
			if got := Index(ahead + piece); !slices.Equal(got, all) {
				t.Fatalf("%q behind %d blanks: %v, not %v", piece, n, got, all)
			}
		}
	}
}

// What stands inside begins nothing, whatever it is, and however far the text goes on.
func TestIndexInside(t *testing.T) {
	for _, n := range lens {
		for x := range 256 {
			if x == '"' || x == '\\' {
				continue
			}
			in := filled(n, byte(x))
			if got := Index(`"` + in); !slices.Equal(got, []int{0}) {
				t.Fatalf("open, %d bytes %d: %v", n, x, got)
			}
			if got := Index(`"` + in + `"]`); !slices.Equal(got, []int{0, n + 2}) {
				t.Fatalf("closed, %d bytes %d: %v", n, x, got)
			}
		}
	}
}

// P8.2

func TestBlanksAreFormed(t *testing.T) {
	for _, s := range texts() {
		if b := Blanks(s); !bitmap.Formed(b) || b.Len != len(s) || len(b.Words) != (len(s)+63)/64 {
			t.Fatalf("%q: %x", s, b)
		}
	}
}

// Of every length: no bit is set above it, though blanks go up to it.
func TestBlanksAlone(t *testing.T) {
	for n := range 260 {
		for _, x := range []byte{' ', '\t', '\n', '\r'} {
			b := Blanks(filled(n, x))
			if !bitmap.Formed(b) || b.Len != n || bitmap.Count(b, 0, n) != n {
				t.Fatalf("%d bytes %d: %x", n, x, b)
			}
		}
	}
}

func TestTheFourBlanksAndTheirNeighbours(t *testing.T) {
	for _, x := range []byte{8, 9, 10, 11, 12, 13, 14, 31, 32, 33, 160, 137, 138, 141} {
		is := x == 9 || x == 10 || x == 13 || x == 32
		for _, at := range []int{0, 1, 62, 63, 64, 65, 127, 128, 190, 191} {
			for _, fill := range []byte{'a', ','} {
				b := Blanks(laid(192, at, string([]byte{x}), fill))
				if bitmap.Get(b, at) != is || is != (bitmap.Count(b, 0, 192) == 1) {
					t.Fatalf("the byte %d at %d: %x", x, at, b)
				}
			}
			in := Blanks(`"` + laid(192, at, string([]byte{x}), 'a'))
			if bitmap.Next(in, 0) != -1 {
				t.Fatalf("the byte %d inside at %d: %x", x, at, in)
			}
		}
	}
}

// A blank that a backslash escapes is one all the same; one ahead of an opening mark or behind a closing one is outside.
func TestBlanksBesideMarksAndBackslashes(t *testing.T) {
	for _, n := range []int{0, 57, 58, 59, 60, 61, 62, 63, 64, 125, 126, 127} {
		ahead := filled(n, 'a')
		for piece, want := range map[string][]int{
			"\\ ":           {1},
			"\\\\ ":         {2},
			" \" \" ":       {0, 4},
			" \"\" ":        {0, 3},
			"\\\" \"":       {2},
			" \" \\\" \" ":  {0, 7},
			" \" \\\\\" \"": {0, 6},
		} {
			b := Blanks(ahead + piece)
			var got []int
			for at := range bitmap.Each(b) {
				got = append(got, at-n)
			}
			if !slices.Equal(got, want) {
				t.Fatalf("%q behind %d bytes: %v", piece, n, got)
			}
		}
	}
}

// P8.3

func TestKindAtEveryPlace(t *testing.T) {
	for _, s := range []string{
		"",
		`{"a": [1, -2.5e3, true], "b\"c" : "d\\"}`,
		filled(130, ','),
		filled(130, 'a'),
		filled(130, '"'),
		filled(62, ' ') + `ab,"c"d` + filled(56, ' ') + `true,"` + filled(70, ','),
		filled(63, 'a') + ` ` + filled(63, 'b') + ` ` + filled(70, 'c'),
		strings.Repeat(`\"a `, 40),
		strings.Repeat("\x80\x0b\"\xff\", ", 30),
	} {
		checkKind(t, s)
	}
}

func TestKindOfEachStructuralByte(t *testing.T) {
	for _, x := range []byte("{}[]:,") {
		one := string([]byte{x})
		for _, at := range []int{0, 1, 63, 64, 127, 128, 191} {
			s := laid(192, at, one, 'a')
			if got := Kind(s, at); got != x {
				t.Fatalf("%q at %d: %q", x, at, got)
			}
			if got := Kind(`"`+s, at+1); got != 0 {
				t.Fatalf("%q inside at %d: %q", x, at, got)
			}
		}
	}
}

// What begins at a place hangs on nothing that stands behind it.
func TestKindOfABeginning(t *testing.T) {
	for _, s := range []string{`{"a b":[1,true]}`, filled(60, 'a') + `"x" ,"y`, `\"a" b"c\"d"e`} {
		for n := 1; n <= len(s); n++ {
			if got, want := Kind(s[:n], n-1), Kind(s, n-1); got != want {
				t.Fatalf("%q at %d: %q, not %q", s[:n], n-1, got, want)
			}
		}
	}
}

// A word's letter is its kind as well where the word begins otherwise, and only there.
func TestKindOfAWord(t *testing.T) {
	for _, word := range []string{"w", "a", "true", "-1", "\\", `\"`, "\x00", "\x80", "www"} {
		for _, n := range []int{0, 1, 62, 63, 64, 127, 128} {
			s := filled(n, ' ') + word + " "
			if got := Kind(s, n); got != 'w' {
				t.Fatalf("%q at %d: %q", word, n, got)
			}
			for at := n + 1; at <= n+len(word); at++ {
				if got := Kind(s, at); got != 0 {
					t.Fatalf("%q at %d: %q", word, at, got)
				}
			}
		}
	}
}

// P8.4

// Words that begin at, end at and lie over the ends of words of bits, and over several of them.
func TestWordsAtEdges(t *testing.T) {
	for _, from := range []int{0, 1, 62, 63, 64, 65, 126, 127, 128, 129} {
		for _, to := range []int{from + 1, from + 2, 63, 64, 65, 127, 128, 129, 191, 192, 193, 256, 300} {
			if to <= from {
				continue
			}
			for _, fill := range []byte{' ', ',', '\n', ']'} {
				for _, more := range []int{0, 1, 63, 64, 65} {
					s := laid(to+more, from, filled(to-from, 'x'), fill)
					if got := slices.Collect(Words(s)); !slices.Equal(got, []api.Span{{From: from, To: to}}) {
						t.Fatalf("from %d to %d of %d: %v", from, to, len(s), got)
					}
				}
			}
		}
	}
}

func TestWordsOnBothSidesOfAText(t *testing.T) {
	for _, n := range []int{1, 2, 31, 62, 63, 64, 65, 128} {
		for _, k := range []int{0, 1, 61, 62, 63, 64, 126} {
			s := filled(n, 'a') + `"` + filled(k, 'b') + `"` + filled(n, 'c')
			if got := slices.Collect(Words(s)); !slices.Equal(got, []api.Span{{From: 0, To: n}, {From: n + k + 2, To: 2*n + k + 2}}) {
				t.Fatalf("%d and %d bytes: %v", n, k, got)
			}
		}
	}
}

// An escaped quote is of the word, so is the backslash; but behind two backslashes the quote is a mark.
func TestWordsWithBackslashes(t *testing.T) {
	for _, n := range []int{0, 1, 2, 3, 61, 62, 63, 64, 65, 126, 127, 128} {
		s := slashes(n) + `"a,b`
		want := []api.Span{{From: 0, To: n}}
		if n%2 == 1 {
			want = []api.Span{{From: 0, To: n + 2}, {From: n + 3, To: n + 4}}
		}
		if n == 0 {
			want = nil
		}
		if got := slices.Collect(Words(s)); !slices.Equal(got, want) {
			t.Fatalf("%d backslashes: %v, not %v", n, got, want)
		}
	}
}

// Each span is a longest one: beside it stands no word byte, and every word byte lies in one.
func TestWordsAreLongest(t *testing.T) {
	for _, s := range texts() {
		sort := sorts(s)
		end, bytes := -1, 0
		for span := range Words(s) {
			if span.From <= end || span.To <= span.From || span.To > len(s) {
				t.Fatalf("Words(%q): %v behind %d", s, span, end)
			}
			if strings.Trim(sort[span.From:span.To], "w") != "" || span.From > 0 && sort[span.From-1] == 'w' || span.To < len(s) && sort[span.To] == 'w' {
				t.Fatalf("Words(%q): %v", s, span)
			}
			end = span.To
			bytes += span.To - span.From
		}
		if bytes != strings.Count(sort, "w") {
			t.Fatalf("Words(%q): %d bytes", s, bytes)
		}
	}
}

// manyWords: texts with many words, of one byte and of many, one that ends the text and none.
var manyWords = []string{"", "a", "a b", ",a,", `"a"`, `a"b"c`, strings.Repeat("ab ", 70), strings.Repeat("a,", 50) + filled(28, 'b'), filled(200, 'x') + " " + filled(64, 'y'), filled(64, 'x') + `""` + filled(62, 'y') + `"z`, `{"a":[12,true,null],"b":-1.5}`}

func TestWordsLeftAfterEachSpan(t *testing.T) {
	for _, s := range manyWords {
		want := plain(s).words
		seq := Words(s)
		for n := 1; n <= len(want); n++ {
			var got []api.Span
			for span := range seq {
				got = append(got, span)
				if len(got) == n {
					break
				}
			}
			if !slices.Equal(got, want[:n]) {
				t.Fatalf("%q, left after %d: %v", s, n, got)
			}
		}
		// Those that were left leave the next round whole.
		if got := slices.Collect(seq); !slices.Equal(got, want) {
			t.Fatalf("%q: %v", s, got)
		}
	}
}

// No span is told behind the one at which a round was left.
func TestWordsTellNothingBehindTheLast(t *testing.T) {
	for _, s := range manyWords {
		want := len(plain(s).words)
		for n := 1; n <= want; n++ {
			calls := 0
			Words(s)(func(api.Span) bool {
				calls++
				return calls < n
			})
			if calls != n {
				t.Errorf("%q, left after %d: %d calls", s, n, calls)
			}
		}
	}
}

func TestWordsBegunAgain(t *testing.T) {
	for _, s := range manyWords {
		seq := Words(s)
		for round := range 3 {
			if got := slices.Collect(seq); !slices.Equal(got, plain(s).words) {
				t.Fatalf("%q, round %d: %v", s, round, got)
			}
		}
	}
}

func TestWordsWithinThemselves(t *testing.T) {
	for _, s := range manyWords {
		want := plain(s).words
		seq := Words(s)
		var outer []api.Span
		for span := range seq {
			outer = append(outer, span)
			if got := slices.Collect(seq); !slices.Equal(got, want) {
				t.Fatalf("%q, within %v: %v", s, span, got)
			}
		}
		if !slices.Equal(outer, want) {
			t.Fatalf("%q: %v", s, outer)
		}
	}
}

func TestWordsInTwoRoundsAtOneTime(t *testing.T) {
	seq := Words("ab,cd ef")
	next, stop := iter.Pull(seq)
	defer stop()
	later, stopLater := iter.Pull(seq)
	defer stopLater()
	next()
	for _, want := range []api.Span{{From: 3, To: 5}, {From: 6, To: 8}} {
		if got, ok := next(); !ok || got != want {
			t.Errorf("%v, not %v", got, want)
		}
	}
	if got, ok := later(); !ok || got != (api.Span{From: 0, To: 2}) {
		t.Errorf("the other round: %v", got)
	}
	if got, ok := next(); ok {
		t.Errorf("behind the last: %v", got)
	}
}

// P8.5

func TestMinifyOfBlanksAlone(t *testing.T) {
	for _, n := range lens {
		if got := Minify(strings.Repeat(" \t\n\r", n)); got != "" {
			t.Fatalf("%d times the four blanks: %q", n, got)
		}
		if got := Minify(filled(n, ' ') + "a" + filled(n, '\n')); got != "a" {
			t.Fatalf("%d blanks on both sides: %q", n, got)
		}
	}
}

// Without a blank outside all bytes stay: control bytes that are no blanks, bytes from 128 on and what stands inside too.
func TestMinifyLeavesAllOthers(t *testing.T) {
	var all []byte
	for x := range 256 {
		if !strings.ContainsRune(" \t\n\r\"", rune(x)) {
			all = append(all, byte(x))
		}
	}
	for _, s := range []string{string(all), `"` + string(all), `{"a b":[" ","\t"]}`, "\"a \n", `"` + filled(130, ' '), `"\" "` + filled(64, 'a') + `" "`} {
		if got := Minify(s); got != s {
			t.Errorf("Minify(%q): %q", s, got)
		}
	}
}

// A blank between two words is left out as well, and they are one then.
func TestMinifyJoinsWords(t *testing.T) {
	for n := 1; n < 140; n++ {
		s := filled(n, 'a') + " \n" + filled(n, 'b')
		got := Minify(s)
		if got != filled(n, 'a')+filled(n, 'b') || len(slices.Collect(Words(got))) != 1 {
			t.Fatalf("%d bytes: %q", n, got)
		}
	}
}

// P8.6

func TestKindIsNotZeroJustInIndex(t *testing.T) {
	for i, s := range texts() {
		if len(s) > 70 && i%8 != 0 {
			continue
		}
		index := Index(s)
		for at := -2; at < len(s)+2; at++ {
			if _, found := slices.BinarySearch(index, at); found != (Kind(s, at) != 0) {
				t.Fatalf("%q at %d", s, at)
			}
		}
	}
}

// slashOutside: is a backslash of the text outside?
func slashOutside(s string) bool {
	sort := sorts(s)
	for i := range len(s) {
		if s[i] == '\\' && sort[i] == 'w' {
			return true
		}
	}
	return false
}

func TestMinifyOfItsOwnAnswer(t *testing.T) {
	seen := 0
	for _, s := range append(texts(), short(6, "\"\\a ")...) {
		if slashOutside(s) {
			continue
		}
		seen++
		small := Minify(s)
		if got := Minify(small); got != small {
			t.Fatalf("%q: %q, then %q", s, small, got)
		}
		if b := Blanks(small); !same(b, row(make([]bool, len(small)))) {
			t.Fatalf("%q: %q has the blanks %x", s, small, b)
		}
	}
	if seen < 2000 {
		t.Errorf("only %d texts", seen)
	}
}

// The chapter's remark: a backslash outside may come to stand ahead of a quote.
func TestMinifyBehindABackslashOutside(t *testing.T) {
	once := Minify(`\ "a b"`)
	if once != `\"a b"` {
		t.Errorf("once: %q", once)
	}
	if twice := Minify(once); twice != `\"ab"` {
		t.Errorf("twice: %q", twice)
	}
}

// By the calls alone: each byte is structural, a blank, a mark, inside and no mark, or of a word.
func TestEachByteIsOneThingAlone(t *testing.T) {
	for i, s := range texts() {
		if len(s) > 70 && i%8 != 0 {
			continue
		}
		blanks, marks, inside := Blanks(s), quotes.Marks(s), quotes.Inside(s)
		of := make([]int, len(s))
		for span := range Words(s) {
			for at := span.From; at < span.To; at++ {
				of[at]++
			}
		}
		for at := range len(s) {
			if kind := Kind(s, at); kind != 0 && kind != 34 && kind != 119 {
				of[at]++
			}
			if bitmap.Get(blanks, at) {
				of[at]++
			}
			if bitmap.Get(marks, at) || bitmap.Get(inside, at) {
				of[at]++
			}
			if of[at] != 1 {
				t.Fatalf("%q at %d: %d things", s, at, of[at])
			}
		}
	}
}

// twoTexts: the first one open or not, with an end that escapes and one that doesn't, that ends with a word or not, up to and over the end of a word of bits; the other one of any kind.
func twoTexts() [][2]string {
	firsts := []string{"", `"`, `""`, `\`, `\\`, `"\\"`, `"a" `, `"a"b`, `a`, `a,`, `a `, `\"`, `[1`, filled(63, 'a'), filled(64, 'a'), filled(64, ' '), filled(63, 'a') + `,`, filled(62, ' ') + `""`, filled(63, ' ') + `"x"`, filled(62, 'a') + `\\`, slashes(64), slashes(65), filled(127, ' ') + `b`, filled(128, 'b'), `"` + filled(126, 'b')}
	nexts := []string{"", `"`, `a`, ` `, `,`, `\`, `""`, `\"`, `a"b"`, ` a`, `"a"b`, `,a`, `]`, slashes(64) + `"`, filled(63, 'c') + `,`, filled(64, 'c'), filled(64, ' ') + `d`, filled(130, '"'), strings.Repeat(`{"x\"":true} `, 30)}
	var list [][2]string
	for _, s := range firsts {
		for _, t := range nexts {
			list = append(list, [2]string{s, t})
		}
	}
	r := rule(86)
	for n := range 300 {
		list = append(list, [2]string{r.mixed(n, [4]int{3, 2, 4, 4}), r.mixed(r.below(200), [4]int{3, 2, 4, 4})})
	}
	return list
}

func TestTwoTextsOneBehindTheOther(t *testing.T) {
	joined, apart := 0, 0
	for _, x := range twoTexts() {
		s, next := x[0], x[1]
		if quotes.Open(s) || escape.Behind(s, false) {
			continue
		}
		behind := Index(next)
		one := s != "" && next != "" && sorts(s)[len(s)-1] == 'w' && sorts(next)[0] == 'w'
		if one {
			joined++
			// The word of the other one has begun in the first.
			behind = behind[1:]
		} else {
			apart++
		}
		want := Index(s)
		for _, at := range behind {
			want = append(want, len(s)+at)
		}
		if got := Index(s + next); !slices.Equal(got, want) {
			t.Fatalf("%q and %q: %v, not %v", s, next, got, want)
		}
	}
	if joined < 20 || apart < 100 {
		t.Errorf("%d joined, %d apart", joined, apart)
	}
}

// The word that goes on is one span, and Kind tells it where it begins alone.
func TestAWordOverTheEndOfTheFirst(t *testing.T) {
	for _, n := range []int{1, 62, 63, 64, 65, 127, 128} {
		s, next := " "+filled(n, 'a'), filled(n, 'b')+" "
		if got := slices.Collect(Words(s + next)); !slices.Equal(got, []api.Span{{From: 1, To: 2*n + 1}}) {
			t.Fatalf("%d and %d bytes: %v", n, n, got)
		}
		if Kind(s+next, 1) != 'w' || Kind(s+next, len(s)) != 0 || Kind(next, 0) != 'w' {
			t.Fatalf("%d and %d bytes: Kind", n, n)
		}
	}
}

// Memory, Sameness

func TestAnswersLieApart(t *testing.T) {
	for _, s := range []string{"", "a", " ", filled(64, ' '), filled(65, ' '), filled(130, ','), strings.Repeat(`"\"" a,`, 60)} {
		want := plain(s)
		index, blanks, spans := Index(s), Blanks(s), Words(s)
		spoilIndex(Index(s))
		spoil(Blanks(s))
		if !slices.Equal(index, want.index) || !same(blanks, row(want.blanks)) {
			t.Errorf("%q: an answer was written over by another one", s)
		}
		spoil(blanks)
		spoilIndex(index)
		if got := slices.Collect(spans); !slices.Equal(got, want.words) {
			t.Errorf("%q: the spans hang on an answer: %v", s, got)
		}
		check(t, s)
		checkKind(t, s)
	}
}

// spoil: all that the caller of a call may write into its answer, the room behind it too.
func spoil(b api.Bits) {
	room := b.Words[:cap(b.Words)]
	for i := range room {
		room[i] = math.MaxUint64 - room[i]
	}
}

func spoilIndex(list []int) {
	room := list[:cap(list)]
	for i := range room {
		room[i] = -1 - room[i]
	}
}

func TestTheSameWhateverElseRuns(t *testing.T) {
	list := texts()[:300]
	shared := Words(manyWords[7])
	var all sync.WaitGroup
	for k := range 4 {
		all.Go(func() {
			for i := range list {
				s := list[(i*7+k)%len(list)]
				want := plain(s)
				if !slices.Equal(Index(s), want.index) || !same(Blanks(s), row(want.blanks)) || Minify(s) != want.small || s != "" && Kind(s, len(s)/2) != want.kinds[len(s)/2] {
					t.Errorf("%q", s)
				}
			}
			if !slices.Equal(slices.Collect(shared), plain(manyWords[7]).words) {
				t.Error("the words that all go through")
			}
		})
	}
	all.Wait()
}

func ExampleIndex() {
	s := `{"a": [true, "b,c"]}`
	for _, at := range Index(s) {
		fmt.Printf("%d%c ", at, Kind(s, at))
	}
	// Output: 0{ 1" 4: 6[ 7w 11, 13" 18] 19}
}

func ExampleWords() {
	s := `{"12": [34, ab]}`
	for span := range Words(s) {
		fmt.Println(s[span.From:span.To])
	}
	// Output:
	// 34
	// ab
}

func ExampleMinify() {
	fmt.Println(Minify(`{ "a b" : [ 1 , 2 ] }`))
	// Output: {"a b":[1,2]}
}
