package pointer

import (
	"fmt"
	"math"
	"reflect"
	"slices"
	"strconv"
	"strings"
	"sync"
	"testing"
	"unicode"
	"unsafe"

	"quarry/api"
	"quarry/tree"
)

// The calls' exact types.
var (
	_ func(string) ([]string, api.Errno)                   = Parse
	_ func([]string) string                                = Print
	_ func(string) (int, bool)                             = Place
	_ func(api.Value, string) (api.Value, bool, api.Errno) = Find
	_ func(string, string) (bool, api.Errno)               = Within
)

// parsed: the value of a text that is a document.
func parsed(t *testing.T, s string) api.Value {
	t.Helper()
	v, verdict, e := tree.Parse(s, api.MaxDepth)
	if verdict.Code != api.Valid || e != api.OK {
		t.Fatalf("tree.Parse(%.80q): %v, %d", s, verdict, e)
	}
	return v
}

// sameNames: s is the one pointer of these names.
func sameNames(t *testing.T, s string, want ...string) {
	t.Helper()
	if got, e := Parse(s); !slices.Equal(got, want) || e != api.OK {
		t.Fatalf("Parse(%.80q) = %.200q, %d, not %.200q", s, got, e, want)
	}
	if got := Print(want); got != s {
		t.Fatalf("Print(%.200q) = %.80q, not %.80q", want, got, s)
	}
}

// refused: no pointer, and nothing is told beside that.
func refused(t *testing.T, s string) {
	t.Helper()
	if got, e := Parse(s); len(got) != 0 || e != api.ErrPointer {
		t.Fatalf("Parse(%.80q) = %.200q, %d", s, got, e)
	}
}

// asPlain: Parse and Print say what the chapter's words do.
func asPlain(t *testing.T, s string) {
	t.Helper()
	if isPointer(s) {
		sameNames(t, s, namesOf(s)...)
	} else {
		refused(t, s)
	}
}

func samePlace(t *testing.T, name string, want int, is bool) {
	t.Helper()
	if got, ok := Place(name); got != want || ok != is {
		t.Fatalf("Place(%.80q) = %d, %v, not %d, %v", name, got, ok, want, is)
	}
}

func leads(t *testing.T, v api.Value, s string, want api.Value) {
	t.Helper()
	if got, ok, e := Find(v, s); show(got) != show(want) || !ok || e != api.OK {
		t.Fatalf("Find(%s, %.80q) = %s, %v, %d, not %s", brief(v), s, brief(got), ok, e, brief(want))
	}
}

// leadsNowhere: and beside the false stands nothing.
func leadsNowhere(t *testing.T, v api.Value, s string) {
	t.Helper()
	if got, ok, e := Find(v, s); !reflect.DeepEqual(got, api.Value{}) || ok || e != api.OK {
		t.Fatalf("Find(%s, %.80q) = %s, %v, %d", brief(v), s, brief(got), ok, e)
	}
}

func findRefuses(t *testing.T, v api.Value, s string, want api.Errno) {
	t.Helper()
	if got, ok, e := Find(v, s); !reflect.DeepEqual(got, api.Value{}) || ok || e != want {
		t.Fatalf("Find(%s, %.80q) = %s, %v, %d, not %d", brief(v), s, brief(got), ok, e, want)
	}
}

// leadsAsPlain: Find says what the chapter's words do, of a well shaped value and a pointer.
func leadsAsPlain(t *testing.T, v api.Value, s string) bool {
	t.Helper()
	if want := led(v, namesOf(s)); want != nil {
		leads(t, v, s, *want)
		return true
	}
	leadsNowhere(t, v, s)
	return false
}

func sameWithin(t *testing.T, s, in string, want bool, e api.Errno) {
	t.Helper()
	if got, err := Within(s, in); got != want || err != e {
		t.Fatalf("Within(%.80q, %.80q) = %v, %d, not %v, %d", s, in, got, err, want, e)
	}
}

// P20.1

func TestParseExamples(t *testing.T) {
	sameNames(t, "")
	sameNames(t, "/", "")
	sameNames(t, "/a/0/m~1n~0", "a", "0", "m/n~")
	sameNames(t, "//", "", "")
	for _, s := range []string{"a", "/~", "/~2", "/a~", " /a"} {
		refused(t, s)
	}
	if got := Print([]string{"~1"}); got != "/~01" {
		t.Error(got)
	}
	if got := Print(nil); got != "" {
		t.Error(got)
	}
}

func TestParseOfSlashes(t *testing.T) {
	for n := range 200 {
		s := strings.Repeat("/", n)
		sameNames(t, s, make([]string, n)...)
		sameNames(t, s+"/a", append(make([]string, n), "a")...)
		sameNames(t, "/a"+s, append([]string{"a"}, make([]string, n)...)...)
		sameNames(t, "/a"+s+"/b", slices.Concat([]string{"a"}, make([]string, n), []string{"b"})...)
	}
	sameNames(t, "/a/b/", "a", "b", "")
	sameNames(t, "/a//b", "a", "", "b")
	sameNames(t, "//a//", "", "a", "", "")
	sameNames(t, "/ab", "ab")
}

func TestParseOfTildes(t *testing.T) {
	for s, want := range map[string]string{
		"~0": "~", "~1": "/", "~01": "~1", "~10": "/0", "~00": "~0", "~11": "/1", "~0~1": "~/", "~1~0": "/~", "~0~0": "~~", "~1~1": "//", "~001": "~01", "~010": "~10", "~0~01": "~~1", "~01~0": "~1~",
		"a~0": "a~", "~0a": "~a", "a~1b": "a/b", "m~1n~0": "m/n~", "~0~1~0~1": "~/~/", "\xff~0\xff": "\xff~\xff", "\u00e4~1\u00e4": "\u00e4/\u00e4", "~0\xe2\x82": "~\xe2\x82", "\xe2\x82~0": "\xe2\x82~", "\x00~1\x00": "\x00/\x00",
	} {
		sameNames(t, "/"+s, want)
		sameNames(t, "/"+s+"/", want, "")
		sameNames(t, "//"+s, "", want)
		sameNames(t, "/"+s+"/"+s, want, want)
		sameNames(t, "/a/"+s+"/b", "a", want, "b")
		refused(t, s)
		refused(t, "/"+s+"~")
		refused(t, "/~"+s)
		refused(t, "/"+s+"/~/a")
	}
}

// A ~ ahead of each byte, in the first name, in a later one, in the middle of one, and behind another pair.
func TestParseOfATildeAheadOfEveryByte(t *testing.T) {
	for x := range 256 {
		c := string([]byte{byte(x)})
		for _, s := range []string{"/~" + c, "/a/~" + c, "/a~" + c + "b", "/~" + c + "/b", "/~0~" + c, "/~1~" + c, "//~" + c + "//", "/~" + c + c} {
			if x == '0' || x == '1' {
				asPlain(t, s)
				if got, e := Parse(s); len(got) == 0 || e != api.OK {
					t.Errorf("Parse(%q) = %q, %d", s, got, e)
				}
			} else {
				refused(t, s)
			}
		}
	}
	for _, s := range []string{"/~", "/a~", "/~0~", "/~1~", "/a/~", "/a/b~", "//~", "/\xff~", "/\u00e4~"} {
		refused(t, s)
	}
	// No digit but these two, however it is written.
	for _, s := range []string{"\uff10", "\uff11", "\u0660", "\u0661", "\u00b9", "\u2070", "\U0001d7ce"} {
		refused(t, "/~"+s)
	}
}

func TestParseOfEveryFirstByte(t *testing.T) {
	for x := range 256 {
		for _, s := range []string{"", "a", "/", "/a", "~0", "0"} {
			s = string([]byte{byte(x)}) + s
			if x == '/' {
				sameNames(t, s, namesOf(s)...)
			} else {
				refused(t, s)
			}
		}
	}
	for _, s := range notPointers {
		refused(t, s)
		if isPointer(s) {
			t.Errorf("%q", s)
		}
	}
}

// Names may have any bytes: each by itself, beside others, ahead of a / and of a ~.
func TestParseOfAnyBytes(t *testing.T) {
	for x := range 256 {
		c := string([]byte{byte(x)})
		if c == "/" || c == "~" {
			continue
		}
		sameNames(t, "/"+c, c)
		sameNames(t, "/"+c+c, c+c)
		sameNames(t, "/"+c+"/"+c+"/", c, c, "")
		sameNames(t, "/a"+c+"b//"+c, "a"+c+"b", "", c)
		sameNames(t, "/"+c+"~0"+c+"~1"+c, c+"~"+c+"/"+c)
		sameNames(t, "/\xe2"+c+"/\xf0\x9f"+c+"~1", "\xe2"+c, "\xf0\x9f"+c+"/")
		sameNames(t, "/\xc3"+c+"~0", "\xc3"+c+"~")
		for y := range 256 {
			asPlain(t, "/"+c+string([]byte{byte(y)}))
			asPlain(t, "/"+string([]byte{byte(y)})+c+"/a")
		}
	}
}

// Characters of one to four bytes, and each of their beginnings, ahead of all that is looked for.
func TestParseOfCharacters(t *testing.T) {
	for _, s := range []string{"\x00", "a", "\x7f", "\u0080", "\u00e4", "\u07ff", "\u0800", "\u20ac", "\ud7ff", "\ue000", "\ufeff", "\ufffd", "\uffff", "\U00010000", "\U0001f600", "\U0010ffff", "\u012f", "\u017e", "\u2f2f", "\u7e7e"} {
		for n := 1; n <= len(s); n++ {
			cut := s[:n]
			sameNames(t, "/"+cut, cut)
			sameNames(t, "/"+cut+"/", cut, "")
			sameNames(t, "/"+cut+"/"+cut, cut, cut)
			sameNames(t, "/"+cut+"~0"+cut+"~1", cut+"~"+cut+"/")
			sameNames(t, "/"+s+cut+"/"+cut+s, s+cut, cut+s)
			sameNames(t, "/"+s[n:]+"/"+cut, s[n:], cut)
			refused(t, cut+"/a")
			refused(t, "/"+cut+"~")
			refused(t, "/~"+cut)
		}
	}
	for c := rune(0); c <= unicode.MaxRune; c += 7 {
		if s := string(c); s != "/" && s != "~" {
			sameNames(t, "/"+s+"/~0"+s, s, "~"+s)
		}
	}
}

func TestParseOfShortTexts(t *testing.T) {
	for _, s := range rows(6, "/", "~", "0", "1", "a", "\xc3") {
		asPlain(t, s)
	}
	for _, s := range rows(3, "/", "~", "0", "1", "2", " ", "-", "\x00", "\xff", "\u00e4", "\u20ac", "\U0001f600", "\xe2\x82", "~0", "~1") {
		asPlain(t, s)
		asPlain(t, "/"+s)
	}
}

func TestParseOfPointers(t *testing.T) {
	for _, s := range pointers() {
		if !isPointer(s) {
			t.Fatalf("%q", s)
		}
		asPlain(t, s)
		for i := range len(s) {
			asPlain(t, s[:i])
			asPlain(t, s[i:])
			asPlain(t, s[:i]+"~"+s[i:])
		}
	}
}

func TestParseOfLongTexts(t *testing.T) {
	const n = 200000
	sameNames(t, strings.Repeat("/", n), make([]string, n)...)
	sameNames(t, strings.Repeat("/ab", n), slices.Repeat([]string{"ab"}, n)...)
	sameNames(t, "/"+strings.Repeat("a", n), strings.Repeat("a", n))
	sameNames(t, "/"+strings.Repeat("~0~1", n), strings.Repeat("~/", n))
	sameNames(t, strings.Repeat("/~1\xff", n), slices.Repeat([]string{"/\xff"}, n)...)
	refused(t, strings.Repeat("/ab", n)+"~")
	refused(t, "/~"+strings.Repeat("/ab", n))
	refused(t, strings.Repeat("/ab", n)+"~2"+strings.Repeat("/ab", n))
	refused(t, strings.Repeat("~0", n))
}

func TestPrintOfNames(t *testing.T) {
	for _, x := range []struct {
		want  string
		names []string
	}{
		{"", nil}, {"", []string{}}, {"/", []string{""}}, {"//", []string{"", ""}}, {"/a//", []string{"a", "", ""}},
		{"/~0", []string{"~"}}, {"/~1", []string{"/"}}, {"/~00", []string{"~0"}}, {"/~01", []string{"~1"}}, {"/~0~1", []string{"~/"}}, {"/~1~0", []string{"/~"}}, {"/~1~1", []string{"//"}}, {"/~0~0", []string{"~~"}}, {"/~001", []string{"~01"}}, {"/~1a~1b", []string{"/a/b"}}, {"/~0/~1", []string{"~", "/"}},
		{"/\xff", []string{"\xff"}}, {"/\xe2\x82~0", []string{"\xe2\x82~"}}, {"/\x00", []string{"\x00"}}, {"/ ", []string{" "}}, {"/\u00e4/\u20ac/\U0001f600", []string{"\u00e4", "\u20ac", "\U0001f600"}}, {"/\xff~1\xff/~0\x80", []string{"\xff/\xff", "~\x80"}},
		{"/0/-/01", []string{"0", "-", "01"}},
	} {
		if got := Print(x.names); got != x.want {
			t.Errorf("Print(%q) = %q, not %q", x.names, got, x.want)
		}
	}
	for x := range 256 {
		c := string([]byte{byte(x)})
		want := map[string]string{"/": "/~1", "~": "/~0"}[c]
		if want == "" {
			want = "/" + c
		}
		if got := Print([]string{c}); got != want {
			t.Errorf("Print of the byte %d: %q", x, got)
		}
	}
	for _, a := range rows(3, "/", "~", "0", "1", "\xff") {
		for _, b := range rows(2, "/", "~", "1", "\u00e4") {
			for _, list := range [][]string{{a}, {a, b}, {b, a, ""}} {
				if got, want := Print(list), pointerOf(list); got != want {
					t.Fatalf("Print(%q) = %q, not %q", list, got, want)
				}
			}
		}
	}
}

// P20.2

func TestPlaceExamples(t *testing.T) {
	samePlace(t, "0", 0, true)
	samePlace(t, "10", 10, true)
	samePlace(t, "999999999999999999", 999999999999999999, true)
	for _, name := range []string{"00", "01", "-1", "1000000000000000000", "-", "", "1e1"} {
		samePlace(t, name, 0, false)
	}
}

// Of each digit and of rows of digits as many as there are, up to 18 and beyond.
func TestPlaceOfDigits(t *testing.T) {
	for n := 1; n <= 40; n++ {
		for _, first := range "123456789" {
			for _, rest := range "0123456789" {
				name := string(first) + strings.Repeat(string(rest), n-1)
				if n > 18 {
					samePlace(t, name, 0, false)
					continue
				}
				want, err := strconv.Atoi(name)
				if err != nil {
					t.Fatal(err)
				}
				samePlace(t, name, want, true)
			}
		}
		for _, rest := range "0123456789" {
			samePlace(t, "0"+strings.Repeat(string(rest), n), 0, false)
		}
	}
	for n := range 20000 {
		samePlace(t, strconv.Itoa(n), n, true)
		samePlace(t, "0"+strconv.Itoa(n), 0, false)
		samePlace(t, strconv.Itoa(-n-1), 0, false)
	}
	for n := 1; n < 1e18 && n > 0; n *= 2 {
		samePlace(t, strconv.Itoa(n), n, true)
		samePlace(t, strconv.Itoa(n-1), n-1, true)
	}
	samePlace(t, "123456789012345678", 123456789012345678, true)
	samePlace(t, "100000000000000000", 100000000000000000, true)
	for _, name := range []string{"999999999999999999" + "9", strconv.Itoa(math.MaxInt), strconv.Itoa(math.MinInt), "9223372036854775808", "18446744073709551615", "18446744073709551616", "18446744073709551617", "0999999999999999999", "000000000000000001", strings.Repeat("1", 100000), strings.Repeat("0", 100000)} {
		samePlace(t, name, 0, false)
	}
}

func TestPlaceOfOtherNames(t *testing.T) {
	for _, name := range []string{"+", "+0", "+1", "-0", "-1", "--1", " ", " 0", "0 ", " 1", "1 ", "1\n", "\t1", "\r1", "1 2", "1.0", "1.", ".1", "0.0", "1e1", "1E1", "1e0", "0x1", "0b1", "0o1", "0x", "1_0", "1,0", "1'0", "a", "1a", "a1", "\x001", "1\x00", "0\x00", "\xff", "1\xff", "\xff1", "null", "true", "Inf", "NaN", "/", "~", "~0", "1~0", "1/", "12345678901234567a"} {
		samePlace(t, name, 0, false)
	}
	// Digits that aren't ASCII.
	for _, of := range unicode.Nd.R16 {
		for c := rune(of.Lo); c <= rune(of.Hi); c++ {
			if c > '9' {
				samePlace(t, string(c), 0, false)
				samePlace(t, "1"+string(c), 0, false)
				samePlace(t, string(c)+"1", 0, false)
			}
		}
	}
	for _, name := range []string{"\u00b2", "\u00bd", "\u2160", "\U0001d7ce", "\U0001d7cf", "1\U0001d7cf", "\u0130", "\u0131", "\u0230", "\uff10"} {
		samePlace(t, name, 0, false)
	}
	for x := range 256 {
		c := string([]byte{byte(x)})
		for _, name := range []string{c, "1" + c, c + "1", "1" + c + "1", c + c, "12345678901234567" + c, "123456789012345678" + c} {
			want, is := placeOf(name)
			samePlace(t, name, want, is)
		}
	}
	for _, name := range rows(5, "0", "1", "9", "-", "+", " ", "a", "\u0661") {
		want, is := placeOf(name)
		samePlace(t, name, want, is)
	}
}

// P20.3

func TestFindExamples(t *testing.T) {
	v := parsed(t, `{"a":[true,{"":7}],"a":1}`)
	leads(t, v, "/a/1/", number("7"))
	for _, s := range []string{"/a/2", "/a/-", "/a/01", "/a/0/x", "/b"} {
		leadsNowhere(t, v, s)
	}
	leads(t, v, "", v)
	for _, s := range slices.Concat(pointers(), notPointers) {
		findRefuses(t, number("01"), s, api.ErrShape)
	}
}

func TestFindOfWhatIsNotWellShaped(t *testing.T) {
	for _, v := range bad() {
		for _, s := range []string{"", "/a", "/0", "/nope", "/a/a/a", "a", "/~", "~0"} {
			findRefuses(t, v, s, api.ErrShape)
		}
	}
	// It is refused, too, where the pointer leads past what isn't well shaped.
	v := object("good", array(null()), "bad", number("01"))
	findRefuses(t, v, "/good/0", api.ErrShape)
	findRefuses(t, v, "/good", api.ErrShape)
	findRefuses(t, v, "/none", api.ErrShape)
}

// A list that lies within itself is deeper than anything, and the call ends all the same.
func TestFindOfWhatLiesWithinItself(t *testing.T) {
	for _, kind := range []int{api.Array, api.Object} {
		kids := make([]api.Value, 2)
		v := api.Value{Kind: kind, Kids: kids}
		if kind == api.Object {
			v.Keys = []string{"a", "b"}
		}
		kids[0], kids[1] = v, v
		findRefuses(t, v, "", api.ErrShape)
		findRefuses(t, v, "/a/0", api.ErrShape)
		findRefuses(t, v, "x", api.ErrShape)
	}
}

func TestFindOfNoPointer(t *testing.T) {
	for _, v := range values() {
		for _, s := range notPointers {
			findRefuses(t, v, s, api.ErrPointer)
		}
		// Also where its names ahead of the fault lead nowhere.
		findRefuses(t, v, "/nope/nope/~", api.ErrPointer)
		findRefuses(t, v, "/0/~2/0", api.ErrPointer)
	}
}

func TestFindOfTheEmptyPointer(t *testing.T) {
	for _, v := range values() {
		leads(t, v, "", v)
	}
}

func TestFindInArrays(t *testing.T) {
	for _, n := range []int{0, 1, 2, 9, 10, 11, 100, 1001} {
		v := array()
		for i := range n {
			v.Kids = append(v.Kids, array(number(strconv.Itoa(i))))
		}
		for i := range n {
			leads(t, v, "/"+strconv.Itoa(i), v.Kids[i])
			leads(t, v, "/"+strconv.Itoa(i)+"/0", v.Kids[i].Kids[0])
			leadsNowhere(t, v, "/0"+strconv.Itoa(i))
			leadsNowhere(t, v, "/"+strconv.Itoa(i)+"/1")
		}
		for _, name := range []string{strconv.Itoa(n), strconv.Itoa(n + 1), "-", "-1", "-0", "+0", "00", "01", "", " ", " 0", "0 ", "0.0", "1e0", "a", "~0", "~1", "\x00", "\xff", "\u0660", "\u0661", "\uff10", "999999999999999999", "1000000000000000000", "9223372036854775807", "9223372036854775808", "18446744073709551615", "18446744073709551616", "18446744073709551617", "4294967296", "length"} {
			leadsNowhere(t, v, "/"+name)
			leadsNowhere(t, v, "/"+name+"/0")
		}
	}
}

func TestFindInObjects(t *testing.T) {
	v := object()
	for i, name := range slices.Compact(slices.Sorted(slices.Values(names))) {
		v.Keys = append(v.Keys, name)
		v.Kids = append(v.Kids, object(name, number(strconv.Itoa(i))))
	}
	for i, name := range v.Keys {
		s := pointerOf([]string{name})
		leads(t, v, s, v.Kids[i])
		leads(t, v, s+s, v.Kids[i].Kids[0])
		leadsNowhere(t, v, s+s+s)
		leadsNowhere(t, v, s+"/none")
	}
	for _, s := range slices.Concat(notUTF8, []string{"none", "A", "abc", "4", "002", "~00", "a ", " a", "\u00e4a", "a\x00", "\x00\x00", "\u00c4", "a\u0308"}) {
		leadsNowhere(t, v, pointerOf([]string{s}))
	}
	// The texts of names, not how they are written in a document or a pointer.
	w := parsed(t, `{"m\/n":1,"\u007e":2,"\u0061b":3,"\ud83d\ude00":4,"~1":5}`)
	leads(t, w, "/m~1n", number("1"))
	leads(t, w, "/~0", number("2"))
	leads(t, w, "/ab", number("3"))
	leads(t, w, "/\U0001f600", number("4"))
	leads(t, w, "/~01", number("5"))
	leadsNowhere(t, w, "/m/n")
	leadsNowhere(t, w, `/\u0061b`)
	leadsNowhere(t, w, "/~1")
}

func TestFindOfNamesThatStandTwice(t *testing.T) {
	v := parsed(t, `{"a":1,"b":{"c":2,"c":[3],"":4},"a":[5],"b":{"d":6},"":7,"":8}`)
	leads(t, v, "/a", number("1"))
	leads(t, v, "/b", parsed(t, `{"c":2,"c":[3],"":4}`))
	leads(t, v, "/b/c", number("2"))
	leads(t, v, "/b/", number("4"))
	leads(t, v, "/", number("7"))
	// What is only to be had through a member that doesn't count isn't to be had.
	leadsNowhere(t, v, "/a/0")
	leadsNowhere(t, v, "/b/c/0")
	leadsNowhere(t, v, "/b/d")
	leads(t, object("x", null(), "a", null(), "a", number("2")), "/a", null())
}

func TestFindOfNamesThatLookLikePlaces(t *testing.T) {
	v := parsed(t, `{"1":"one","0":"nought","-":"minus","00":"noughts","":"none","01":[10,11],"999999999999999999999":"many"}`)
	for s, want := range map[string]string{"/1": "one", "/0": "nought", "/-": "minus", "/00": "noughts", "/": "none", "/999999999999999999999": "many"} {
		leads(t, v, s, text(want))
	}
	leads(t, v, "/01/1", number("11"))
	leadsNowhere(t, v, "/2")
	leadsNowhere(t, v, "/01/01")
	leadsNowhere(t, object("a", null(), "b", null()), "/0")
	leadsNowhere(t, object("a", null(), "b", null()), "/1")
}

func TestFindOfNullMembers(t *testing.T) {
	v := parsed(t, `{"a":null,"b":[null,null],"c":{"d":null}}`)
	for _, s := range []string{"/a", "/b/0", "/b/1", "/c/d"} {
		leads(t, v, s, null())
	}
	for _, s := range []string{"/a/", "/a/0", "/a/a", "/b/2", "/b/0/0", "/c/e", "/c/d/d", "/d"} {
		leadsNowhere(t, v, s)
	}
}

// From a value that is neither array nor object each name leads nowhere.
func TestFindFromScalars(t *testing.T) {
	for _, v := range []api.Value{null(), truth(true), truth(false), number("0"), number("10"), text(""), text("a"), text("[1]"), text(`{"a":1}`)} {
		for _, s := range pointers() {
			if s == "" {
				leads(t, v, s, v)
				continue
			}
			leadsNowhere(t, v, s)
			leadsNowhere(t, array(v), "/0"+s)
			leadsNowhere(t, object("a", v), "/a"+s)
		}
	}
}

func TestFindOfEachKind(t *testing.T) {
	const s = `{"n":null,"t":true,"f":false,"i":-12.50e+3,"s":"\u00e4\n","a":[1,"x",[]],"o":{"b":{},"c":null}}`
	v := parsed(t, s)
	for i, name := range v.Keys {
		leads(t, v, "/"+name, v.Kids[i])
		leads(t, array(null(), v), "/1/"+name, v.Kids[i])
	}
	leads(t, v, "/i", number("-12.50e+3"))
	leads(t, v, "/s", text("\u00e4\n"))
	leads(t, v, "/a/2", array())
	leads(t, v, "/o/b", object())
	leads(t, array(number("1e9999999999")), "/0", number("1e9999999999"))
}

func TestFindInValues(t *testing.T) {
	var r rule = 203
	found := 0
	list := pointers()
	for _, v := range values() {
		for _, s := range list {
			leadsAsPlain(t, v, s)
		}
		for range 40 {
			s := r.pointer(v)
			if leadsAsPlain(t, v, s) && s != "" {
				found++
			}
			leadsAsPlain(t, v, s+pointerOf([]string{r.one(names)}))
			leadsAsPlain(t, v, pointerOf([]string{r.one(names)})+s)
		}
	}
	if found < 1000 {
		t.Errorf("%d: the rule tells too little", found)
	}
}

func TestFindOfManyLevels(t *testing.T) {
	for _, n := range []int{1, 2, 1000, 1023, 1024} {
		for _, kind := range []int{api.Array, api.Object} {
			name := map[int]string{api.Array: "/0", api.Object: "/a"}[kind]
			v := nest(n, kind, number("7"))
			leads(t, v, strings.Repeat(name, n), number("7"))
			leads(t, v, strings.Repeat(name, n-1), nest(1, kind, number("7")))
			leadsNowhere(t, v, strings.Repeat(name, n+1))
			leadsNowhere(t, v, strings.Repeat(name, n-1)+"/1")
			leadsNowhere(t, v, strings.Repeat(name, 100000))
		}
	}
	// A long way to a great part: it must not be copied at each step.
	const wide = 100000
	v := nest(1000, api.Object, array(slices.Repeat([]api.Value{null()}, wide)...))
	got, ok, e := Find(v, strings.Repeat("/a", 1000))
	if len(got.Kids) != wide || !ok || e != api.OK {
		t.Error(len(got.Kids), ok, e)
	}
}

func TestFindOfManyParts(t *testing.T) {
	const n = 100000
	v, w := object(), array()
	for i := range n {
		v.Keys = append(v.Keys, "m"+strconv.Itoa(i))
		v.Kids = append(v.Kids, number(strconv.Itoa(i)))
	}
	w.Kids = slices.Clone(v.Kids)
	for _, i := range []int{0, 1, 4711, n - 2, n - 1} {
		leads(t, v, "/m"+strconv.Itoa(i), number(strconv.Itoa(i)))
		leads(t, w, "/"+strconv.Itoa(i), number(strconv.Itoa(i)))
	}
	leadsNowhere(t, v, "/m"+strconv.Itoa(n))
	leadsNowhere(t, w, "/"+strconv.Itoa(n))
}

// P20.4

func TestWithinExamples(t *testing.T) {
	for _, x := range [][2]string{{"/a/b", "/a"}, {"/a", "/a"}, {"/a", ""}} {
		sameWithin(t, x[0], x[1], true, api.OK)
	}
	for _, x := range [][2]string{{"/a", "/a/b"}, {"/ab", "/a"}} {
		sameWithin(t, x[0], x[1], false, api.OK)
	}
	sameWithin(t, "x", "", false, api.ErrPointer)
}

func TestWithinOfTheEdges(t *testing.T) {
	for _, x := range []struct {
		s, t string
		want bool
	}{
		{"", "", true}, {"/", "", true}, {"", "/", false}, {"/", "/", true}, {"//", "/", true}, {"/", "//", false}, {"/a/", "/a", true}, {"/a", "/a/", false}, {"/a//b", "/a/", true}, {"//a", "/a", false}, {"//a", "/", true}, {"/a", "/", false},
		{"/ab", "/a", false}, {"/a", "/ab", false}, {"/ab/c", "/a", false}, {"/a/bc", "/a/b", false}, {"/abc", "/ab", false}, {"/A", "/a", false},
		{"/~0", "/~0", true}, {"/~1", "/~0", false}, {"/~01", "/~0", false}, {"/~10", "/~1", false}, {"/~0/1", "/~0", true}, {"/~0~1", "/~0", false}, {"/~01", "/~01", true}, {"/a~1b", "/a", false}, {"/a/b", "/a~1b", false}, {"/a~1b/c", "/a~1b", true}, {"/~1/~0", "/~1", true}, {"/~1~0", "/~1", false},
		{"/0", "/00", false}, {"/01", "/1", false}, {"/1", "/01", false}, {"/0/1", "/0", true}, {"/-", "/-", true},
		{"/\xff/a", "/\xff", true}, {"/\xff", "/\xfe", false}, {"/\xff", "/\ufffd", false}, {"/\xe2\x82\xac", "/\xe2\x82", false}, {"/\xe2\x82/\xac", "/\xe2\x82", true}, {"/\x00", "/", false}, {"/\x00/b", "/\x00", true}, {"/\u00e4", "/a\u0308", false},
	} {
		sameWithin(t, x.s, x.t, x.want, api.OK)
	}
}

func TestWithinOfPointers(t *testing.T) {
	list := rows(4, "/", "~0", "~1", "a")
	list = append(list, pointers()...)
	list = slices.DeleteFunc(list, func(s string) bool { return !isPointer(s) })
	is := 0
	for _, s := range list {
		for _, in := range list {
			want := within(s, in)
			sameWithin(t, s, in, want, api.OK)
			if want {
				is++
			}
		}
	}
	if is < 500 || is > len(list)*len(list)/2 {
		t.Errorf("%d of %d", is, len(list)*len(list))
	}
}

func TestWithinOfNoPointers(t *testing.T) {
	for _, no := range notPointers {
		for _, s := range []string{"", "/", "/a", "/~0", "/a/b/c"} {
			sameWithin(t, no, s, false, api.ErrPointer)
			sameWithin(t, s, no, false, api.ErrPointer)
			// Also behind names in which the two differ, or that are more than the other one has.
			sameWithin(t, s+"/~", "/other", false, api.ErrPointer)
			sameWithin(t, "/other", s+"/~", false, api.ErrPointer)
		}
		for _, other := range notPointers {
			sameWithin(t, no, other, false, api.ErrPointer)
		}
	}
}

func TestWithinOfLongPointers(t *testing.T) {
	long := strings.Repeat("/a~0", 100000)
	sameWithin(t, long, long, true, api.OK)
	sameWithin(t, long+"/", long, true, api.OK)
	sameWithin(t, long, long+"/", false, api.OK)
	sameWithin(t, long+"a", long, false, api.OK)
	sameWithin(t, long, "", true, api.OK)
	sameWithin(t, long, long+"~", false, api.ErrPointer)
}

// P20.5

func TestWhatIsPrintedIsParsedAsTheSame(t *testing.T) {
	back := func(list []string) {
		t.Helper()
		s := Print(list)
		if got, e := Parse(s); !slices.Equal(got, list) || e != api.OK || !isPointer(s) {
			t.Fatalf("Parse(Print(%q)) = %q, %d", list, got, e)
		}
	}
	back(nil)
	all := slices.Concat(names, notUTF8, rows(3, "/", "~", "0", "1", "\xff"))
	for _, a := range all {
		back([]string{a})
		for _, b := range all {
			back([]string{a, b})
			back([]string{b, "", a})
		}
	}
	var r rule = 205
	for range 2000 {
		var list []string
		for range r.below(20) {
			name := make([]byte, r.below(12))
			for i := range name {
				name[i] = byte(r.below(256))
				if r.below(3) == 0 {
					name[i] = "/~01"[r.below(4)]
				}
			}
			list = append(list, string(name))
		}
		back(list)
	}
}

func TestWhatIsParsedIsPrintedAsTheSame(t *testing.T) {
	is := 0
	for _, s := range append(pointers(), rows(6, "/", "~", "0", "1", "\xff")...) {
		list, e := Parse(s)
		if (e == api.OK) != isPointer(s) {
			t.Fatalf("Parse(%q): %d", s, e)
		}
		if e != api.OK {
			continue
		}
		is++
		if got := Print(list); got != s {
			t.Fatalf("Print(Parse(%q)) = %q", s, got)
		}
	}
	if is < 1000 {
		t.Error(is)
	}
}

// One pointer behind another leads from where that one leads.
func TestOnePointerBehindAnother(t *testing.T) {
	var r rule = 206
	led, not := 0, 0
	for _, v := range values() {
		for range 60 {
			s := r.pointer(v)
			w, ok, e := Find(v, s)
			if e != api.OK {
				t.Fatal(e)
			}
			if !ok {
				leadsNowhere(t, v, s+r.pointer(v))
				continue
			}
			on := r.pointer(w)
			x, ok, e := Find(w, on)
			if e != api.OK {
				t.Fatal(e)
			}
			if ok {
				leads(t, v, s+on, x)
				led++
			} else {
				leadsNowhere(t, v, s+on)
				not++
			}
		}
	}
	if led < 1000 || not < 1000 {
		t.Errorf("%d and %d: the rule tells too little", led, not)
	}
}

func TestWhatWalkTellsIsFound(t *testing.T) {
	told := 0
	for _, v := range append(values(), nest(1024, api.Array, null()), nest(500, api.Object, array(null(), text("a")))) {
		for s, part := range tree.Walk(v) {
			if !isPointer(s) {
				t.Fatalf("%q", s)
			}
			if !twice(v) {
				leads(t, v, s, part)
				told++
				continue
			}
			// Where a name stands twice it leads through the members that count, if anywhere.
			leadsAsPlain(t, v, s)
		}
	}
	if told < 1000 {
		t.Errorf("%d: the values tell too little", told)
	}
}

func TestFromValuesThatAreAlike(t *testing.T) {
	var r rule = 207
	found := 0
	list := pointers()
	for _, v := range values() {
		for range 3 {
			w := r.likened(v)
			if !tree.Alike(v, w) {
				t.Fatalf("%s and %s", brief(v), brief(w))
			}
			all := list
			for range 20 {
				all = append(all, r.pointer(v), r.pointer(w))
			}
			for _, s := range all {
				a, here, e := Find(v, s)
				b, there, f := Find(w, s)
				if e != api.OK || f != api.OK || here != there || here && !tree.Alike(a, b) {
					t.Fatalf("%q: from %s to %s, from %s to %s", s, brief(v), brief(a), brief(w), brief(b))
				}
				if here && s != "" {
					found++
				}
			}
		}
	}
	if found < 1000 {
		t.Errorf("%d: the values tell too little", found)
	}
}

// Within is so of a pointer and itself, and goes on from the one to the other.
func TestWithinGoesOn(t *testing.T) {
	list := slices.DeleteFunc(append(rows(4, "/", "~0", "a"), pointers()...), func(s string) bool { return !isPointer(s) })
	table := make([][]bool, len(list))
	for i, s := range list {
		table[i] = make([]bool, len(list))
		for j, in := range list {
			table[i][j], _ = Within(s, in)
		}
		if !table[i][i] {
			t.Fatalf("%q isn't within itself", s)
		}
	}
	for i, r := range list {
		for j, s := range list {
			if !table[i][j] {
				continue
			}
			if table[j][i] && r != s {
				t.Fatalf("%q and %q are within one another", r, s)
			}
			for k, in := range list {
				if table[j][k] && !table[i][k] {
					t.Fatalf("%q is within %q, that one within %q", r, s, in)
				}
			}
		}
	}
	var r rule = 208
	for _, v := range values() {
		s := r.pointer(v)
		on := s + r.pointer(v)
		sameWithin(t, on, s, true, api.OK)
		sameWithin(t, on, on, true, api.OK)
		sameWithin(t, s, on, on == s, api.OK)
	}
}

// Memory

// roomy: the same value in lists with room behind them, in which something stands.
func roomy(v api.Value) api.Value {
	keys := append(slices.Clone(v.Keys), "room", "room")
	v.Keys = keys[:len(v.Keys)]
	kids := append(slices.Clone(v.Kids), text("room"), text("room"))
	v.Kids = kids[:len(v.Kids)]
	for i, kid := range v.Kids {
		v.Kids[i] = roomy(kid)
	}
	return v
}

// withRoom: the struct's text, and that of what stands behind its lists.
func withRoom(v api.Value) string {
	w := v
	w.Keys, w.Kids = v.Keys[:len(v.Keys)+2], v.Kids[:len(v.Kids)+2]
	s := show(w)
	for _, kid := range v.Kids {
		s += withRoom(kid)
	}
	return s
}

// scribble: writes over all that is in a value's lists, and the room behind them.
func scribble(v api.Value) {
	for _, kid := range v.Kids {
		scribble(kid)
	}
	keys, kids := v.Keys[:cap(v.Keys)], v.Kids[:cap(v.Kids)]
	for i := range keys {
		keys[i] = "scribbled"
	}
	for i := range kids {
		kids[i] = api.Value{Kind: -3, Raw: "scribbled"}
	}
}

func TestWhatComesInStays(t *testing.T) {
	var r rule = 209
	for _, v := range append(values(), plainlyBad()...) {
		a := roomy(v)
		before := withRoom(a)
		list := []string{"", "/a", "/0", "/a/0", "/room", "/2", "x"}
		if tree.Formed(v) {
			list = append(list, r.pointer(v), r.pointer(v))
		}
		for _, s := range list {
			w, _, _ := Find(a, s)
			scribble(w)
			if withRoom(a) != before {
				t.Fatalf("Find(%s, %q) changes it", brief(v), s)
			}
		}
	}
	for _, list := range [][]string{{}, {""}, {"~", "/"}, {"a", "m/n~", "\xff", ""}} {
		all := append(slices.Clone(list), "room/", "~room")
		before := slices.Clone(all)
		Print(all[:len(list)])
		if !slices.Equal(all, before) {
			t.Errorf("Print(%q) changes it: %q", list, all)
		}
	}
}

// fill: writes into the room behind all lists of a value.
func fill(v api.Value) {
	for _, kid := range v.Kids {
		fill(kid)
	}
	for keys := v.Keys[len(v.Keys):cap(v.Keys)]; len(keys) > 0; keys = keys[1:] {
		keys[0] = "filled"
	}
	for kids := v.Kids[len(v.Kids):cap(v.Kids)]; len(kids) > 0; kids = kids[1:] {
		kids[0] = api.Value{Kind: -4}
	}
}

func TestAnswersShareNothing(t *testing.T) {
	for _, kid := range values() {
		v := array(object("a", kid), kid)
		before, want := show(v), show(kid)
		a, _, _ := Find(v, "/0/a")
		b, _, _ := Find(v, "/0/a")
		c, _, _ := Find(v, "/1")
		d, _, _ := Find(kid, "")
		whole, _, _ := Find(v, "")
		fill(a)
		if show(a) != want {
			t.Fatalf("Find(%s): the room behind a list is another one's", brief(v))
		}
		scribble(a)
		scribble(d)
		if show(b) != want || show(c) != want || show(v) != before || show(whole) != before {
			t.Fatalf("Find(%s): the answer is somebody else's, too", brief(v))
		}
		fill(whole)
		if show(whole) != before || show(v) != before {
			t.Fatalf("Find(%s) of the whole: the room behind a list is another one's", brief(v))
		}
		scribble(whole)
		if show(v) != before {
			t.Fatalf("Find(%s) of the whole: it is what came in", brief(v))
		}
	}
	// Lists of one answer lie apart though they were one list in what came in.
	kids := []api.Value{null()}
	twin := api.Value{Kind: api.Array, Kids: kids}
	w, _, _ := Find(object("a", array(twin, twin)), "/a")
	w.Kids[0].Kids[0] = text("x")
	if show(w.Kids[1]) != show(array(null())) {
		t.Error("two lists of one answer are one")
	}
	for _, s := range pointers() {
		a, _ := Parse(s)
		b, _ := Parse(s)
		room := a[:cap(a)]
		for i := range room {
			room[i] = "scribbled"
		}
		c, _ := Parse(s)
		if want := namesOf(s); !slices.Equal(b, want) || !slices.Equal(c, want) {
			t.Fatalf("Parse(%q): two answers share a list", s)
		}
	}
}

// What comes in may be written over afterwards: the answers stay.
func TestAnswersStayWhateverTheirGiverDoes(t *testing.T) {
	for _, v := range values() {
		a := roomy(v)
		w, _, _ := Find(a, "")
		x, ok, _ := Find(a, "/a")
		want := led(v, []string{"a"})
		scribble(a)
		if show(w) != show(v) || ok != (want != nil) || ok && show(x) != show(*want) {
			t.Fatalf("%s: %s, %s", brief(v), brief(w), brief(x))
		}
	}
	list := []string{"a", "m/n"}
	s := Print(list)
	list[0], list[1] = "scribbled", "scribbled"
	if s != "/a/m~1n" {
		t.Error(s)
	}
}

// textsOf: all texts of a value.
func textsOf(v api.Value) []string {
	list := append([]string{v.Raw, v.Text}, v.Keys...)
	for _, kid := range v.Kids {
		list = append(list, textsOf(kid)...)
	}
	return list
}

// lieApart: no text of the one list has a byte in common with one of the other.
func lieApart(t *testing.T, answer, given []string) {
	t.Helper()
	for _, a := range answer {
		for _, b := range given {
			from, at := uintptr(unsafe.Pointer(unsafe.StringData(b))), uintptr(unsafe.Pointer(unsafe.StringData(a)))
			if a != "" && at >= from && at < from+uintptr(len(b)) {
				t.Fatalf("%.40q lies in %.40q, which came in", a, b)
			}
		}
	}
}

func TestAnswersHoldOnToNoText(t *testing.T) {
	v := parsed(t, `{"name":["text",12.50,{"a\u0062":"\n"}],"other":-7e9,"~/":"x"}`)
	for s := range tree.Walk(v) {
		w, ok, e := Find(v, s)
		if !ok || e != api.OK {
			t.Fatal(s, ok, e)
		}
		lieApart(t, textsOf(w), append(textsOf(v), s))
	}
	for _, s := range []string{"/a", "/name/other", "/~0", "/a~1b/c", "//x/"} {
		s = strings.Clone(s)
		list, _ := Parse(s)
		lieApart(t, list, []string{s})
	}
	for _, list := range [][]string{{"a"}, {"name", "other"}, {"~"}} {
		lieApart(t, []string{Print(list)}, list)
	}
}

// Sameness

// asked: all that the calls answer.
func asked(v api.Value, s, u string) string {
	list, e := Parse(s)
	n, is := Place(s)
	w, ok, f := Find(v, s)
	in, g := Within(s, u)
	return fmt.Sprintf("%q %d %q %d %v %s %v %d %v %d", list, e, Print(list), n, is, show(w), ok, f, in, g)
}

func TestTheSameAgainWhateverElseRuns(t *testing.T) {
	list := values()
	var r rule = 210
	var one, two, want []string
	for i, v := range list {
		one, two = append(one, r.pointer(v)), append(two, r.pointer(v))
		if i%7 == 0 {
			one[i] = r.one(notPointers)
		}
		if i%11 == 0 {
			two[i] = strconv.Itoa(i)
		}
		want = append(want, asked(v, one[i], two[i]))
	}
	var group sync.WaitGroup
	for k := range 8 {
		group.Go(func() {
			for i := range list {
				at := (i*7 + k) % len(list)
				if got := asked(list[at], one[at], two[at]); got != want[at] {
					t.Errorf("%s, %q, %q: %.300s, not %.300s", brief(list[at]), one[at], two[at], got, want[at])
				}
			}
		})
	}
	group.Wait()
}

func ExampleParse() {
	list, err := Parse("/a/0/m~1n~0")
	fmt.Printf("%q %d\n", list, err)
	list, err = Parse("a")
	fmt.Printf("%q %d\n", list, err)
	// Output:
	// ["a" "0" "m/n~"] 0
	// [] 200
}

func ExamplePrint() {
	fmt.Println(Print([]string{"a", "0", "m/n~"}))
	// Output:
	// /a/0/m~1n~0
}

func ExampleFind() {
	v, _, _ := tree.Parse(`{"a": [true, {"": 7}], "a": 1}`, 5)
	part, ok, err := Find(v, "/a/1/")
	fmt.Println(part.Raw, ok, err)
	_, ok, err = Find(v, "/a/2")
	fmt.Println(ok, err)
	// Output:
	// 7 true 0
	// false 0
}

func ExampleWithin() {
	fmt.Println(Within("/a/b", "/a"))
	fmt.Println(Within("/ab", "/a"))
	// Output:
	// true 0
	// false 0
}
