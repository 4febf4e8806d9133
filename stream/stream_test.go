package stream

import (
	"fmt"
	"reflect"
	"slices"
	"strings"
	"sync"
	"testing"
	"time"
	"unsafe"

	"quarry/api"
	"quarry/valid"
)

// The calls' exact types.
var (
	_ func(string) ([]api.Span, int)           = Split
	_ func() *Splitter                         = New
	_ func(*Splitter, string) []string         = (*Splitter).Feed
	_ func(*Splitter) (string, bool, string)   = (*Splitter).End
	_ interface{ Feed(piece string) []string } = (*Splitter)(nil)
)

// splits: of a text Split answers these documents, each by where it begins and ends, and that bad place.
func splits(t *testing.T, s string, bad int, places ...int) {
	t.Helper()
	var want []api.Span
	for i := 0; i < len(places); i += 2 {
		want = append(want, api.Span{From: places[i], To: places[i+1]})
	}
	if docs, at := Split(s); !slices.Equal(docs, want) || at != bad {
		t.Errorf("Split(%.200q) = %.500s, %d, not %.500s, %d", s, fmt.Sprint(docs), at, fmt.Sprint(want), bad)
	}
}

// feeds: a piece is fed, and these documents are told.
func feeds(t *testing.T, p *Splitter, piece string, want ...string) {
	t.Helper()
	if docs := p.Feed(piece); !slices.Equal(docs, want) {
		t.Fatalf("Feed(%.200q) = %.500q, not %.500q", piece, docs, want)
	}
}

// ends: that is what End answers, and that what it answers then, behind nothing.
func ends(t *testing.T, p *Splitter, doc string, ok bool, rest string) {
	t.Helper()
	if d, o, r := p.End(); d != doc || o != ok || r != rest {
		t.Fatalf("End: %.200q, %v, %.200q, not %.200q, %v, %.200q", d, o, r, doc, ok, rest)
	}
	if !reflect.DeepEqual(p, New()) {
		t.Fatalf("behind End it isn't as a new one: %.300s", fmt.Sprintf("%+v", p))
	}
	if d, o, r := p.End(); d != "" || o || r != "" {
		t.Fatalf("End behind End: %q, %v, %q", d, o, r)
	}
}

// The examples

func TestExampleOne(t *testing.T) {
	splits(t, `{"a":[1]} [2] "x" null`, -1, 0, 9, 10, 13, 14, 17, 18, 22)
	splits(t, "1 2]3", 3, 0, 1, 2, 3)
	splits(t, `"a"1{}`, -1, 0, 3, 3, 4, 4, 6)
	splits(t, "{]x", -1, 0, 2, 2, 3)
	splits(t, "[1", 0)
	splits(t, `a "b`, 2, 0, 1)
	splits(t, ": :", 0)
	splits(t, "", -1)
	splits(t, " \t\r\n ", -1)
}

func TestExampleTwo(t *testing.T) {
	splits(t, `\"a b`, -1, 0, 3, 4, 5)
}

func TestExampleThree(t *testing.T) {
	p := New()
	feeds(t, p, "1 2", "1")
	feeds(t, p, "3{", "23")
	feeds(t, p, `}"`, "{}")
	ends(t, p, "", false, `"`)
	feeds(t, p, "tr")
	feeds(t, p, "ue")
	ends(t, p, "true", true, "")
	feeds(t, p, "7 ]8", "7")
	feeds(t, p, "[]")
	ends(t, p, "", false, "]8[]")
}

// The eighth and the tenth example of the whole.
func TestExamplesOfTheWhole(t *testing.T) {
	s := `{"a":1} 2 "x"]`
	splits(t, s, 13, 0, 7, 8, 9, 10, 13)
	p := New()
	for at, want := range map[int]string{6: `{"a":1}`, 9: "2", 12: `"x"`} {
		for i := range at {
			p.Feed(s[i : i+1])
		}
		feeds(t, p, s[at:at+1], want)
		p.End()
	}
	told := 0
	for i := range len(s) {
		told += len(p.Feed(s[i : i+1]))
	}
	if told != 3 {
		t.Error(told)
	}
	ends(t, p, "", false, "]")
	splits(t, "1 2]", 3, 0, 1, 2, 3)
	feeds(t, p, "1 2]", "1", "2")
	ends(t, p, "", false, "]")
}

// P27.1

func TestBlanksAlone(t *testing.T) {
	for n := range 200 {
		for _, blank := range []string{" ", "\t", "\n", "\r", " \t\n\r"} {
			splits(t, strings.Repeat(blank, n), -1)
		}
	}
}

func TestWords(t *testing.T) {
	splits(t, "a", -1, 0, 1)
	splits(t, "ab", -1, 0, 2)
	splits(t, " a ", -1, 1, 2)
	splits(t, "a b", -1, 0, 1, 2, 3)
	splits(t, "a\r\nb\tc\n", -1, 0, 1, 3, 4, 5, 6)
	splits(t, "nulltrue -1.5e+3 'x' #", -1, 0, 8, 9, 16, 17, 20, 21, 22)
	splits(t, "a[]b", -1, 0, 1, 1, 3, 3, 4)
	splits(t, "a{}{}b", -1, 0, 1, 1, 3, 3, 5, 5, 6)
	splits(t, `a"b"c`, -1, 0, 1, 1, 4, 4, 5)
	splits(t, `1"2`, 1, 0, 1)
	splits(t, "1[2", 1, 0, 1)
	splits(t, "1{", 1, 0, 1)
}

// Bytes that are no blanks for a document, whatever they are elsewhere.
func TestStrangeWords(t *testing.T) {
	splits(t, "\v \f", -1, 0, 1, 2, 3)
	splits(t, "\x00", -1, 0, 1)
	splits(t, "a\u00a0b", -1, 0, 4)
	splits(t, "\u2028\u3000", -1, 0, 6)
	splits(t, "\ufeff{}", -1, 0, 3, 3, 5)
	splits(t, "\xff\xfe \x80", -1, 0, 2, 3, 4)
	splits(t, "\xc3{\xa4}\xe2\x82 \xac", -1, 0, 1, 1, 4, 4, 6, 7, 8)
	splits(t, "\"\xff\xc3\"\xa4[\xf0\x9f]", -1, 0, 4, 4, 5, 5, 9)
	splits(t, "\x7f\x1f", -1, 0, 2)
}

func TestBrackets(t *testing.T) {
	splits(t, "[]", -1, 0, 2)
	splits(t, "{}[]{}", -1, 0, 2, 2, 4, 4, 6)
	splits(t, "{]", -1, 0, 2)
	splits(t, "[}", -1, 0, 2)
	splits(t, "{[}]x", -1, 0, 4, 4, 5)
	splits(t, "[{]}[", 4, 0, 4)
	splits(t, "[,:a \n b:,]", -1, 0, 11)
	splits(t, "[]]", 2, 0, 2)
	splits(t, "[][", 2, 0, 2)
	splits(t, "[[]", 0)
	splits(t, " [[][]", 1)
	splits(t, "1 {2} {3 {4} 5", 6, 0, 1, 2, 5)
	splits(t, `["]"]`, -1, 0, 5)
	splits(t, `{"[":"{"}`, -1, 0, 9)
	splits(t, `["\"]"]`, -1, 0, 7)
	splits(t, `["]]`, 0)
	splits(t, `["\"]]`, 0)
	splits(t, `["a""]"'"]"']`, -1, 0, 13)
}

func TestMarks(t *testing.T) {
	splits(t, `""`, -1, 0, 2)
	splits(t, `""""`, -1, 0, 2, 2, 4)
	splits(t, `"""`, 2, 0, 2)
	splits(t, `"`, 0)
	splits(t, ` "a`, 1)
	splits(t, `" " "`, 4, 0, 3)
	splits(t, `"[" [`, 4, 0, 3)
	splits(t, `"]}:,{[ "`, -1, 0, 9)
	splits(t, `"\"`, 0)
	splits(t, `"\`, 0)
	splits(t, `"\\"`, -1, 0, 4)
	splits(t, `"\\\""`, -1, 0, 6)
	splits(t, `"\\\"`, 0)
	splits(t, `"\u0022"`, -1, 0, 8)
	splits(t, "\"\n\"", -1, 0, 3)
}

// A backslash counts wherever it stands, but only for a quote.
func TestBackslashesOutside(t *testing.T) {
	splits(t, `\`, -1, 0, 1)
	splits(t, `\\`, -1, 0, 2)
	splits(t, `\ \`, -1, 0, 1, 2, 3)
	splits(t, `\"`, -1, 0, 2)
	splits(t, `\\"`, 2, 0, 2)
	splits(t, `\\""`, -1, 0, 2, 2, 4)
	splits(t, `\"""`, -1, 0, 2, 2, 4)
	splits(t, `a\"b"c"`, -1, 0, 4, 4, 7)
	splits(t, `a\ "b"`, -1, 0, 2, 3, 6)
	splits(t, `\{}`, -1, 0, 1, 1, 3)
	splits(t, `\]`, 1, 0, 1)
	splits(t, `\,`, 1, 0, 1)
	splits(t, `{\}`, -1, 0, 3)
	splits(t, `[\"]`, -1, 0, 4)
	splits(t, `[\"]"]`, 4, 0, 4)
	splits(t, `[1\]"a"`, -1, 0, 4, 4, 7)
	splits(t, `[\\"]"]`, -1, 0, 7)
	splits(t, `"a"\"b"`, 6, 0, 3, 3, 6)
	splits(t, `"\\"\"`, -1, 0, 4, 4, 6)
}

func TestStructuralWhereADocumentWouldBegin(t *testing.T) {
	for _, c := range []string{"}", "]", ":", ","} {
		splits(t, c, 0)
		splits(t, c+c+" 1", 0)
		splits(t, " \n"+c+"{}", 2)
		splits(t, "1"+c, 1, 0, 1)
		splits(t, "1 "+c+" 2", 2, 0, 1)
		splits(t, "{}"+c+"{}", 2, 0, 2)
		splits(t, `"a"`+c+"1", 3, 0, 3)
		splits(t, `["`+c+`"]`+c, 5, 0, 5)
		splits(t, `"`+c+`"`, -1, 0, 3)
	}
}

// What the 256 bytes are, each alone, within a word, within marks and brackets.
func TestEveryByte(t *testing.T) {
	for n := range 256 {
		c := string([]byte{byte(n)})
		switch {
		case strings.Contains(" \t\n\r", c):
			splits(t, c, -1)
			splits(t, "a"+c+"b", -1, 0, 1, 2, 3)
		case strings.Contains("{}[]:,\"", c):
			splits(t, c, 0)
			splits(t, "a"+c+"b", 1, 0, 1)
		default:
			splits(t, c, -1, 0, 1)
			splits(t, "a"+c+"b", -1, 0, 3)
		}
		if c != `"` && c != `\` {
			splits(t, `"`+c+`"`, -1, 0, 3)
		}
		if !strings.Contains(`{["]}`, c) {
			splits(t, "["+c+"}", -1, 0, 3)
		}
	}
}

// Texts that end, and things that stand, about where blocks of 64 bytes do.
func TestAboutBlocks(t *testing.T) {
	var sizes []int
	for n := range 20 {
		sizes = append(sizes, 54+n, 118+n, 182+n)
	}
	for _, n := range sizes {
		x, slashes, blanks := strings.Repeat("x", n), strings.Repeat(`\`, n), strings.Repeat(" ", n)
		splits(t, x, -1, 0, n)
		splits(t, x+" 1", -1, 0, n, n+1, n+2)
		splits(t, blanks+"[1]", -1, n, n+3)
		splits(t, blanks+`"`, n)
		splits(t, "["+blanks+"]a", -1, 0, n+2, n+2, n+3)
		splits(t, `"`+x+`"{`, n+2, 0, n+2)
		splits(t, `["`+x+`"]]`, n+4, 0, n+4)
		splits(t, strings.Repeat("[", n)+strings.Repeat("]", n)+"1", -1, 0, 2*n, 2*n, 2*n+1)
		splits(t, strings.Repeat("[", n)+strings.Repeat("]", n-1), 0)
		splits(t, slashes, -1, 0, n)
		if n%2 == 0 {
			splits(t, `"`+slashes+`"`, -1, 0, n+2)
			splits(t, slashes+`"`, n, 0, n)
			splits(t, "["+slashes+`"]"]`, -1, 0, n+5)
		} else {
			splits(t, `"`+slashes+`"`, 0)
			splits(t, slashes+`"`, -1, 0, n+1)
			splits(t, "["+slashes+`"]"]`, n+3, 0, n+3)
		}
	}
}

// asPlain: Split answers of a text what both plain ones do.
func asPlain(t *testing.T, s string) {
	t.Helper()
	docs, bad := Split(s)
	for _, plainly := range []func(string) ([]api.Span, int){split, byHand} {
		if want, at := plainly(s); !slices.Equal(docs, want) || bad != at {
			t.Fatalf("Split(%q) = %v, %d, not %v, %d", s, docs, bad, want, at)
		}
	}
}

// every: each text of up to n of some bytes.
func every(n int, of string, do func(s string)) {
	row := make([]byte, n)
	var fill func(at int)
	fill = func(at int) {
		do(string(row[:at]))
		for i := 0; i < len(of) && at < n; i++ {
			row[at] = of[i]
			fill(at + 1)
		}
	}
	fill(0)
}

func TestEveryShortText(t *testing.T) {
	every(5, "{[]}\"\\a ,", func(s string) { asPlain(t, s) })
	every(7, "[]\"\\ a", func(s string) { asPlain(t, s) })
	every(2, string(allBytes()), func(s string) { asPlain(t, s) })
}

func allBytes() []byte {
	var list []byte
	for n := range 256 {
		list = append(list, byte(n))
	}
	return list
}

func TestManyTexts(t *testing.T) {
	var r rule = 27
	for range 20000 {
		asPlain(t, r.text(14))
	}
}

// P27.2

func TestNew(t *testing.T) {
	p, q := New(), New()
	if p == nil || q == nil || p == q {
		t.Fatal("New makes no Splitters")
	}
	ends(t, p, "", false, "")
	for range 3 {
		feeds(t, p, "")
	}
	ends(t, p, "", false, "")
	feeds(t, p, "1 [", "1")
	feeds(t, New(), "]")
	feeds(t, q, `2"`, "2")
	ends(t, New(), "", false, "")
	ends(t, p, "", false, "[")
	ends(t, q, "", false, `"`)
}

// P27.3

func TestBracketsAndQuotesAreKnownWithTheirLastByte(t *testing.T) {
	p := New()
	feeds(t, p, "[")
	feeds(t, p, "[")
	feeds(t, p, "]")
	feeds(t, p, "]", "[[]]")
	feeds(t, p, "{}", "{}")
	feeds(t, p, `"`)
	feeds(t, p, `"`, `""`)
	feeds(t, p, `"a"[1]"b"[`, `"a"`, "[1]", `"b"`)
	feeds(t, p, `"]`)
	feeds(t, p, `"`)
	feeds(t, p, "]", `["]"]`)
	feeds(t, p, "  ")
	feeds(t, p, " []", "[]")
	ends(t, p, "", false, "")
}

func TestWordsAreKnownWithTheByteBehind(t *testing.T) {
	for _, behind := range []string{" ", "\n", "\t", "\r", "{", "[", `"`, "]", "}", ",", ":"} {
		p := New()
		feeds(t, p, "1")
		feeds(t, p, "")
		feeds(t, p, behind, "1")
		p.End()
		feeds(t, p, "12"+behind, "12")
		p.End()
		feeds(t, p, " 1 2", "1")
		feeds(t, p, "3")
		feeds(t, p, "")
		feeds(t, p, "4"+behind, "234")
		feeds(t, p, "")
		_, ok, rest := p.End()
		if ok || rest != strings.Trim(behind, " \t\n\r") {
			t.Fatal(ok, rest)
		}
	}
	p := New()
	for _, c := range []string{`\`, "\x00", "\xff", "\u00e4", "-", "\v"} {
		feeds(t, p, "x")
		feeds(t, p, c)
		feeds(t, p, "x ", "x"+c+"x")
	}
	ends(t, p, "", false, "")
}

func TestCutsBehindBackslashes(t *testing.T) {
	p := New()
	feeds(t, p, `"a\`)
	feeds(t, p, `"`)
	feeds(t, p, `b"`, `"a\"b"`)
	feeds(t, p, `"\`)
	feeds(t, p, "")
	feeds(t, p, `\`)
	feeds(t, p, `"`, `"\\"`)
	feeds(t, p, `\`)
	feeds(t, p, `"`)
	feeds(t, p, `"`, `\"`)
	feeds(t, p, `"`, `""`)
	feeds(t, p, `["\\\`)
	feeds(t, p, `"]\\`)
	feeds(t, p, `"]`, `["\\\"]\\"]`)
	feeds(t, p, `[\`)
	feeds(t, p, `"]`, `[\"]`)
	feeds(t, p, `\`)
	feeds(t, p, `{`, `\`)
	feeds(t, p, `"`)
	feeds(t, p, `"\`)
	feeds(t, p, `}"`, `{""\}`)
	feeds(t, p, `"`, `""`)
	feeds(t, p, `\`)
	ends(t, p, `\`, true, "")
	feeds(t, p, `""`, `""`) // what came ahead of End escapes nothing behind it
	ends(t, p, "", false, "")
}

func TestRowsOfBackslashes(t *testing.T) {
	for n := range 140 {
		row := strings.Repeat(`\`, n)
		for cut := range n + 1 {
			p := New()
			feeds(t, p, `"`+row[:cut])
			feeds(t, p, row[cut:])
			if n%2 == 0 {
				feeds(t, p, `"`, `"`+row+`"`)
			} else {
				feeds(t, p, `"`)
				feeds(t, p, `"`, `"`+row+`""`)
			}
			ends(t, p, "", false, "")
		}
	}
}

// A bad place in the first piece, in a later one, at a piece's beginning and end; behind it nothing is told.
func TestBadPlaces(t *testing.T) {
	for _, c := range []string{"]", "}", ",", ":"} {
		p := New()
		feeds(t, p, c)
		feeds(t, p, `1 {} "a" `)
		ends(t, p, "", false, c+`1 {} "a" `)
		feeds(t, p, "1 {}"+c+" 2 []", "1", "{}")
		feeds(t, p, "")
		feeds(t, p, c+" ")
		ends(t, p, "", false, c+" 2 []"+c+" ")
		feeds(t, p, "1")
		feeds(t, p, c, "1")
		ends(t, p, "", false, c)
		feeds(t, p, "[1")
		feeds(t, p, "] ", "[1]")
		feeds(t, p, "")
		feeds(t, p, c+"2 ")
		feeds(t, p, "3 ")
		ends(t, p, "", false, c+"2 3 ")
		feeds(t, p, `"a`)
		feeds(t, p, c+`"`+c+`"`, `"a`+c+`"`)
		ends(t, p, "", false, c+`"`)
	}
}

// P27.4

func TestEnd(t *testing.T) {
	for _, x := range []struct {
		pieces    []string
		doc, rest string
	}{
		{[]string{}, "", ""},
		{[]string{"", ""}, "", ""},
		{[]string{" ", "\n"}, "", ""},
		{[]string{"1"}, "1", ""},
		{[]string{"", "n", "", "ull", ""}, "null", ""},
		{[]string{"1 ", "2"}, "2", ""},
		{[]string{"{}a"}, "a", ""},
		{[]string{`"x"`, `\`, `"`}, `\"`, ""},
		{[]string{"1 "}, "", ""},
		{[]string{"[1]"}, "", ""},
		{[]string{"[1"}, "", "[1"},
		{[]string{"0 [", `"]`, `" `, " {} "}, "", `["]"  {} `},
		{[]string{"{{", "}", " 1"}, "", "{{} 1"},
		{[]string{`"`}, "", `"`},
		{[]string{`1"a`, ` 2 [] \`, `"`}, "", `"a 2 [] \"`},
		{[]string{"] 1"}, "", "] 1"},
		{[]string{"1]", "1"}, "", "]1"},
		{[]string{"1", ":", "2"}, "", ":2"},
	} {
		p := New()
		for range 3 {
			for _, piece := range x.pieces {
				p.Feed(piece)
			}
			ends(t, p, x.doc, x.doc != "", x.rest)
		}
	}
}

// inPieces: a Splitter tells of these pieces just when the plain one does, and what Split answers of the whole.
func inPieces(t *testing.T, p *Splitter, pieces ...string) {
	t.Helper()
	slow := plain{of: split}
	var told []string
	for _, piece := range pieces {
		docs, want := p.Feed(piece), slow.feed(piece)
		if !slices.Equal(docs, want) {
			t.Fatalf("%q: Feed(%q) = %q, not %q", pieces, piece, docs, want)
		}
		told = append(told, docs...)
	}
	whole := slow.all
	doc, ok, rest := p.End()
	if d, o, r := slow.end(); doc != d || ok != o || rest != r {
		t.Fatalf("%q: End = %q, %v, %q, not %q, %v, %q", pieces, doc, ok, rest, d, o, r)
	}
	if ok {
		told = append(told, doc)
	}
	asSplit(t, whole, told, rest)
}

// asSplit: what a Splitter told of a text in all is what Split answers of it.
func asSplit(t *testing.T, whole string, told []string, rest string) {
	t.Helper()
	spans, bad := Split(whole)
	if !slices.Equal(told, cut(whole, spans)) {
		t.Fatalf("Split(%q) = %v, but %q was told", whole, spans, told)
	}
	if bad < 0 && rest != "" || bad >= 0 && rest != whole[bad:] {
		t.Fatalf("Split(%q): bad at %d, but the rest is %q", whole, bad, rest)
	}
}

// ordinary: texts of each kind, well and badly ended.
var ordinary = []string{
	`{"a":[1]} [2] "x" null`, "1 2]3", `"a"1{}`, "{]x", "[1", `a "b`, ": :", "", " \n ", `\"a b`, `{"a":1} 2 "x"]`,
	`"\\\"" "\\" \\\" \\"\\"`, `[["]",{"[":"\"]"}],[]]{}"" 12`, "\u00e4\xff{\x00}\"\u20ac\" \xe2\x82", "true false\r\nnull\t-1.5e-7 ", `[{}[]"" 1`, `{"a":"`, `{"a":"\`, "1,2", `[\"]"]"`,
}

func TestCutEverywhere(t *testing.T) {
	p := New()
	for _, s := range ordinary {
		inPieces(t, p, s)
		inPieces(t, p, strings.Split(s, "")...)
		inPieces(t, p, bytewise(s)...)
		for i := range len(s) + 1 {
			for j := range i + 1 {
				inPieces(t, p, s[:j], s[j:i], s[i:])
			}
			inPieces(t, p, "", s[:i], "", "", s[i:], "")
		}
	}
}

// bytewise: a text cut into its bytes.
func bytewise(s string) (list []string) {
	for i := range len(s) {
		list = append(list, s[i:i+1])
	}
	return list
}

func TestManyCuts(t *testing.T) {
	var r rule = 28
	p := New()
	for range 4000 {
		inPieces(t, p, r.pieces(r.text(14))...)
	}
}

// The plain Splitter of the other reading.
func TestCutsByHand(t *testing.T) {
	var r rule = 29
	p := New()
	for range 1000 {
		slow := plain{of: byHand}
		for _, piece := range r.pieces(r.text(9)) {
			feeds(t, p, piece, slow.feed(piece)...)
		}
		doc, ok, rest := slow.end()
		ends(t, p, doc, ok, rest)
	}
}

func TestTwoSplittersInTurns(t *testing.T) {
	var r rule = 30
	for range 1000 {
		var p [2]*Splitter
		var slow [2]plain
		for i := range p {
			p[i], slow[i].of = New(), split
		}
		for _, piece := range r.pieces(r.text(14)) {
			i := r.below(2)
			feeds(t, p[i], piece, slow[i].feed(piece)...)
			if r.below(6) == 0 {
				doc, ok, rest := slow[1-i].end()
				ends(t, p[1-i], doc, ok, rest)
			}
		}
		for i := range p {
			doc, ok, rest := slow[i].end()
			ends(t, p[i], doc, ok, rest)
		}
	}
}

// P27.5

// Every short text, cut in every way: when each document is known is told by what the text's beginnings have.
func TestEveryShortTextInEveryPieces(t *testing.T) {
	p := New()
	every(5, "[}\"\\a ,", func(s string) {
		spans, bad := split(s)
		docs := cut(s, spans)
		known := make([]int, len(s)+1) // so many with the first bytes
		for n := range known {
			slow := plain{of: split}
			known[n] = len(slow.feed(s[:n]))
		}
		rest := ""
		if bad >= 0 {
			rest = s[bad:]
		}
		for cuts := range 1 << max(len(s)-1, 0) {
			from := 0
			for to := 1; to <= len(s); to++ {
				if to == len(s) || cuts>>(to-1)&1 == 1 {
					feeds(t, p, s[from:to], docs[known[from]:known[to]]...)
					from = to
				}
			}
			last := append(docs[known[len(s)]:len(docs):len(docs)], "")[0]
			ends(t, p, last, last != "", rest)
		}
	})
}

// follows: what the chapter says that follows of Split's answer.
func follows(t *testing.T, s string) {
	t.Helper()
	spans, bad := Split(s)
	at := 0
	for _, span := range spans {
		if span.From >= span.To || strings.Trim(s[at:span.From], " \t\n\r") != "" {
			t.Fatalf("Split(%q) = %v: at %d", s, spans, at)
		}
		at = span.To
		splits(t, s[span.From:span.To], -1, 0, span.To-span.From)
	}
	end := len(s)
	if bad >= 0 {
		end = bad
	}
	if at > end || strings.Trim(s[at:end], " \t\n\r") != "" {
		t.Fatalf("Split(%q) = %v, %d", s, spans, bad)
	}
}

func TestWhatFollows(t *testing.T) {
	every(6, "[}\"\\a :", func(s string) { follows(t, s) })
	var r rule = 31
	for range 20000 {
		follows(t, r.text(14))
	}
	for _, s := range ordinary {
		follows(t, s)
	}
}

// Documents with blanks between them are told one by one, each without the blanks around it.
func TestDocumentsWithBlanksBetween(t *testing.T) {
	var r rule = 32
	blanks := []string{" ", "\n", "\r\n", "\t", "   ", strings.Repeat(" \n", 40)}
	for range 3000 {
		var docs []string
		s := one(&r, []string{"", "", " ", "\n\n"})
		for i := range r.below(8) {
			if i > 0 {
				s += one(&r, blanks)
			}
			doc := r.document(4)
			if v, _ := valid.Check(doc, 9); v.Code != api.Valid {
				t.Fatalf("%q is no document", doc)
			}
			docs = append(docs, doc)
			s += doc
		}
		s += one(&r, []string{"", "", " ", "\n"})
		spans, bad := Split(s)
		if got := cut(s, spans); bad != -1 || !slices.Equal(got, docs) {
			t.Fatalf("Split(%q): %q, %d, not %q", s, got, bad, docs)
		}
		p := New()
		var told []string
		for _, piece := range r.pieces(s) {
			told = append(told, p.Feed(piece)...)
		}
		if doc, ok, rest := p.End(); ok || rest != "" {
			told = append(told, doc+rest)
		}
		if !slices.Equal(told, docs) {
			t.Fatalf("%q: %q, not %q", s, told, docs)
		}
	}
}

// How deep a document is, isn't asked.
func TestDeepDocuments(t *testing.T) {
	for _, n := range []int{api.MaxDepth - 1, api.MaxDepth, api.MaxDepth + 1, 70000, 1 << 20} {
		s := strings.Repeat("[{", n) + strings.Repeat("]]", n)
		splits(t, s, -1, 0, len(s))
		splits(t, s+s, -1, 0, len(s), len(s), 2*len(s))
		splits(t, s+"]", len(s), 0, len(s))
		splits(t, "0"+s[:len(s)-1], 1, 0, 1)
		p := New()
		feeds(t, p, s[:n])
		feeds(t, p, s[n:len(s)-1])
		feeds(t, p, s[len(s)-1:], s)
		ends(t, p, "", false, "")
	}
}

// soon: what is done grows with the text alone, so that it ends within a time that a way over the whole for each part would not keep.
func soon(t *testing.T, what string, do func()) {
	t.Helper()
	start := time.Now()
	do()
	if d := time.Since(start); d > 20*time.Second {
		t.Errorf("%s took %v", what, d)
	}
}

func TestLongTexts(t *testing.T) {
	const n = 1 << 20
	soon(t, "many documents", func() {
		s := strings.Repeat(`1 [] "a"{}`, n)
		docs, bad := Split(s)
		if len(docs) != 4*n || bad != -1 || docs[4*n-1] != (api.Span{From: len(s) - 2, To: len(s)}) {
			t.Error(len(docs), bad)
		}
		if docs := New().Feed(s); len(docs) != 4*n || docs[4*n-2] != `"a"` {
			t.Error(len(docs))
		}
	})
	soon(t, "brackets and marks that are open", func() {
		splits(t, strings.Repeat("[", 4*n), 0)
		splits(t, strings.Repeat(`"`, 4*n+1), 4*n, everyTwo(2*n)...)
		splits(t, strings.Repeat("{}", n)+"[", 2*n, everyTwo(n)...)
	})
	for _, x := range []struct{ ahead, part, behind string }{{"", "x", " "}, {`"`, `\"`, `"`}, {"[", `"a",`, "]"}, {"", "[", ""}, {"", "]", ""}, {"", " ", "1 "}, {"", `"`, ""}} {
		s := x.ahead + strings.Repeat(x.part, n) + x.behind
		soon(t, fmt.Sprintf("%q byte by byte", x.part), func() {
			p := New()
			var told []string
			for i := range len(s) {
				told = append(told, p.Feed(s[i:i+1])...)
			}
			doc, ok, rest := p.End()
			if ok {
				told = append(told, doc)
			}
			spans, bad := Split(s)
			if !slices.Equal(told, cut(s, spans)) || bad < 0 && rest != "" || bad >= 0 && rest != s[bad:] {
				t.Error(x, len(told), bad, len(rest))
			}
		})
	}
}

// everyTwo: the places of n documents of two bytes each, beside one another.
func everyTwo(n int) (places []int) {
	for i := range n {
		places = append(places, 2*i, 2*i+2)
	}
	return places
}

// Memory

// loose: a text whose bytes may be written over.
func loose(s string) (string, []byte) {
	b := []byte(s)
	return unsafe.String(unsafe.SliceData(b), len(b)), b
}

// What was told stays as it was when the pieces are written over, and so does what is still to come.
func TestASplitterHoldsOnToNoPiece(t *testing.T) {
	var r rule = 33
	for n := range 2000 {
		s := r.text(14)
		if n < len(ordinary) {
			s = ordinary[n]
		}
		p := New()
		slow := plain{of: split}
		var told, want []string
		for _, piece := range r.pieces(s) {
			text, b := loose(piece)
			want = append(want, slow.feed(piece)...)
			told = append(told, p.Feed(text)...)
			for i := range b {
				b[i] = '#'
			}
		}
		doc, ok, rest := p.End()
		if d, o, r := slow.end(); doc != d || ok != o || rest != r || !slices.Equal(told, want) {
			t.Fatalf("%q: %q, %q, %v, %q", s, told, doc, ok, rest)
		}
	}
}

// The documents of one piece, where nothing was kept ahead of it; and of two, where something was.
func TestTextsLieApart(t *testing.T) {
	for _, n := range []int{1, 40, 5000} {
		x := strings.Repeat("x", n)
		pieces := []string{strings.Clone(`"` + x + `"[` + x + `]` + x + ` ` + x), strings.Clone(x + ` "` + x), strings.Clone(`" {` + x + `}`), strings.Clone(`[` + x), strings.Clone(`]`), strings.Clone(" " + x)}
		p := New()
		texts := slices.Clone(pieces)
		for _, piece := range pieces {
			texts = append(texts, p.Feed(piece)...)
		}
		doc, _, _ := p.End()
		p.Feed(pieces[3])
		_, _, rest := p.End()
		p.Feed("]" + x)
		_, _, more := p.End()
		texts = append(texts, doc, rest, more)
		if len(texts) != 16 {
			t.Error(len(texts))
		}
		for i, a := range texts {
			for _, b := range texts[:i] {
				from, at := uintptr(unsafe.Pointer(unsafe.StringData(a))), uintptr(unsafe.Pointer(unsafe.StringData(b)))
				if at < from+uintptr(len(a)) && from < at+uintptr(len(b)) {
					t.Fatalf("%.50q lies in %.50q", a, b)
				}
			}
		}
	}
}

// A list that went out is the caller's, and the room behind it too.
func TestListsLieApart(t *testing.T) {
	var r rule = 34
	for range 500 {
		s := r.text(20)
		docs, bad := Split(s)
		again, _ := Split(s)
		for i := range again[:cap(again)] {
			again[:cap(again)][i] = api.Span{From: -7, To: -7}
		}
		if want, at := split(s); !slices.Equal(docs, want) || bad != at {
			t.Fatalf("Split(%q): two answers share a list", s)
		}
		p := New()
		slow := plain{of: split}
		var lists, wants [][]string
		for _, piece := range r.pieces(s) {
			docs := p.Feed(piece)
			lists, wants = append(lists, slices.Clone(docs)), append(wants, slow.feed(piece))
			for i := range docs[:cap(docs)] {
				docs[:cap(docs)][i] = "scribbled"
			}
		}
		if fmt.Sprintf("%q", lists) != fmt.Sprintf("%q", wants) {
			t.Fatalf("%q: %q, not %q", s, lists, wants)
		}
		doc, ok, rest := slow.end()
		ends(t, p, doc, ok, rest)
	}
}

// It keeps nothing of what is told, and nothing of what is blank.
func TestWhatASplitterKeeps(t *testing.T) {
	p := New()
	long := strings.Repeat("x", 1<<20)
	for range 3 {
		for _, s := range []string{"[" + long + "]", `"` + long + `"`, long + " ", strings.Repeat(" ", 1<<20)} {
			p.Feed(s[:9])
			p.Feed(s[9:])
			if cap(p.kept) > 0 {
				t.Fatalf("%d bytes are kept", cap(p.kept))
			}
		}
	}
	p.Feed("[" + long + "] 12")
	if string(p.kept) != "12" || cap(p.kept) > 100 {
		t.Fatalf("%.100q, with room for %d", p.kept, cap(p.kept))
	}
}

// Sameness

// story: all that a Splitter and Split answer, made of one rule.
func story(seed int) string {
	var text strings.Builder
	r := rule(seed)
	p := New()
	for range 10 {
		s := r.text(20)
		docs, bad := Split(s)
		fmt.Fprint(&text, docs, bad)
		for _, piece := range r.pieces(s) {
			fmt.Fprintf(&text, "%q", p.Feed(piece))
		}
		doc, ok, rest := p.End()
		fmt.Fprintf(&text, "%q %v %q;", doc, ok, rest)
	}
	return text.String()
}

func TestTheSameAgainWhateverElseRuns(t *testing.T) {
	var want []string
	for i := range 100 {
		want = append(want, story(i))
	}
	var callers sync.WaitGroup
	for n := range 8 {
		callers.Go(func() {
			for i := range want {
				at := (i*(2*n+1) + n) % len(want)
				if story(at) != want[at] {
					t.Errorf("%d isn't answered the same again", at)
					return
				}
			}
		})
	}
	callers.Wait()
}

// The plain readings themselves, where the examples can tell.
func TestThePlainOnes(t *testing.T) {
	for _, plainly := range []func(string) ([]api.Span, int){split, byHand} {
		for s, want := range map[string]string{
			`{"a":[1]} [2] "x" null`: "[{0 9} {10 13} {14 17} {18 22}] -1", "1 2]3": "[{0 1} {2 3}] 3", `"a"1{}`: "[{0 3} {3 4} {4 6}] -1", "{]x": "[{0 2} {2 3}] -1",
			"[1": "[] 0", `a "b`: "[{0 1}] 2", ": :": "[] 0", "": "[] -1", "\n ": "[] -1", `\"a b`: "[{0 3} {4 5}] -1", `{"a":1} 2 "x"]`: "[{0 7} {8 9} {10 13}] 13",
		} {
			docs, bad := plainly(s)
			if got := fmt.Sprint(docs, bad); got != want {
				t.Errorf("%q: %s, not %s", s, got, want)
			}
		}
		p := plain{of: plainly}
		var told []string
		for _, piece := range []string{"1 2", "3{", `}"`} {
			told = append(told, fmt.Sprintf("%q", p.feed(piece)))
		}
		doc, ok, rest := p.end()
		if got := fmt.Sprintf("%s %q %v %q", told, doc, ok, rest); got != `[["1"] ["23"] ["{}"]] "" false "\""` {
			t.Error(got)
		}
		p.feed("true")
		if doc, ok, rest := p.end(); doc != "true" || !ok || rest != "" {
			t.Error(doc, ok, rest)
		}
	}
}

func ExampleSplit() {
	s := `{"a":1} 2 "x"] 3`
	docs, bad := Split(s)
	for _, span := range docs {
		fmt.Println(s[span.From:span.To])
	}
	fmt.Println(bad)
	// Output:
	// {"a":1}
	// 2
	// "x"
	// 13
}

func ExampleSplitter() {
	p := New()
	for _, piece := range []string{`{"a":`, "1} 2", "3 tr", "ue"} {
		fmt.Printf("%q\n", p.Feed(piece))
	}
	doc, ok, rest := p.End()
	fmt.Printf("%q %v %q\n", doc, ok, rest)
	// Output:
	// []
	// ["{\"a\":1}"]
	// ["23"]
	// []
	// "true" true ""
}
