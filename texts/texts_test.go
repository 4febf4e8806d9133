package texts

import (
	"encoding/json"
	"fmt"
	"math"
	"regexp"
	"slices"
	"strconv"
	"strings"
	"sync"
	"testing"
	"unicode/utf16"
	"unicode/utf8"

	"quarry/api"
)

// The calls' exact types.
var (
	_ func(string) (string, api.Errno)   = Unescape
	_ func(string) (string, api.Errno)   = Escape
	_ func(string, string) bool          = Same
	_ func(string, int) (int, api.Errno) = End
)

// What is right falls into these.
var one = regexp.MustCompile(`^(?:[^"\\\x00-\x1f]|\\["\\/bfnrt]|\\u[0-9a-fA-F]{4})`)

// things: the chapter's own words of what is right: what raw, which is UTF-8, falls into; false, if it isn't right.
func things(raw string) ([]string, bool) {
	var list []string
	for rest := raw; rest != ""; {
		x := one.FindString(rest)
		if x == "" {
			return nil, false
		}
		list = append(list, x)
		rest = rest[len(x):]
	}
	return list, true
}

// number: the number that an escape's four digits are; -1, if a thing has none.
func number(thing string) rune {
	if !strings.HasPrefix(thing, `\u`) {
		return -1
	}
	n, err := strconv.ParseUint(thing[2:], 16, 16)
	if err != nil {
		panic(err)
	}
	return rune(n)
}

func isHigh(n rune) bool { return 0xd800 <= n && n <= 0xdbff }
func isLow(n rune) bool  { return 0xdc00 <= n && n <= 0xdfff }

// meant: what these things mean.
func meant(list []string) string {
	short := map[string]string{`\"`: "\x22", `\\`: "\x5c", `\/`: "\x2f", `\b`: "\x08", `\f`: "\x0c", `\n`: "\x0a", `\r`: "\x0d", `\t`: "\x09"}
	var b strings.Builder
	for i := 0; i < len(list); i++ {
		n := number(list[i])
		switch {
		case n == -1 && len(list[i]) == 2 && list[i][0] == '\\':
			b.WriteString(short[list[i]])
		case n == -1:
			b.WriteString(list[i])
		case isHigh(n) && i+1 < len(list) && isLow(number(list[i+1])):
			b.WriteString(string(utf16.DecodeRune(n, number(list[i+1]))))
			i++
		case isHigh(n) || isLow(n):
			b.WriteString("\xef\xbf\xbd")
		default:
			b.WriteString(string(n))
		}
	}
	return b.String()
}

// wanted: what the chapter says of Unescape.
func wanted(raw string) (string, api.Errno) {
	if !utf8.ValidString(raw) {
		return "", api.ErrUTF8
	}
	list, ok := things(raw)
	if !ok {
		return "", api.ErrText
	}
	return meant(list), api.OK
}

// library: what the language's library reads between quotes.
func library(raw string) (string, api.Errno) {
	if !utf8.ValidString(raw) {
		return "", api.ErrUTF8
	}
	var s string
	if json.Unmarshal([]byte(`"`+raw+`"`), &s) != nil {
		return "", api.ErrText
	}
	return s, api.OK
}

// wantedEscape: what the chapter says of Escape.
func wantedEscape(s string) (string, api.Errno) {
	if !utf8.ValidString(s) {
		return "", api.ErrUTF8
	}
	short := map[rune]string{34: `\"`, 92: `\\`, 8: `\b`, 12: `\f`, 10: `\n`, 13: `\r`, 9: `\t`}
	var b strings.Builder
	for _, r := range s {
		switch {
		case short[r] != "":
			b.WriteString(short[r])
		case r < 32:
			fmt.Fprintf(&b, `\u00%02x`, r)
		default:
			b.WriteString(string(r))
		}
	}
	return b.String(), api.OK
}

// wantedEnd: what the chapter says of End, with chapter 6's words on what is escaped.
func wantedEnd(s string, from int) (int, api.Errno) {
	if from < 0 || from > len(s) {
		return 0, api.ErrRange
	}
	t := s[from:]
	escaped := make([]bool, len(t)+1)
	for i := 1; i <= len(t); i++ {
		escaped[i] = t[i-1] == 92 && !escaped[i-1]
	}
	for i := range len(t) {
		if t[i] == 34 && !escaped[i] {
			return from + i, api.OK
		}
	}
	return 0, api.ErrText
}

func sameUnescape(t *testing.T, raw, want string, e api.Errno) {
	t.Helper()
	if got, err := Unescape(raw); got != want || err != e {
		t.Fatalf("Unescape(%q) = %q, %d, not %q, %d", raw, got, err, want, e)
	}
}

func sameEscape(t *testing.T, s, want string, e api.Errno) {
	t.Helper()
	if got, err := Escape(s); got != want || err != e {
		t.Fatalf("Escape(%q) = %q, %d, not %q, %d", s, got, err, want, e)
	}
}

func sameEnd(t *testing.T, s string, from, want int, e api.Errno) {
	t.Helper()
	if got, err := End(s, from); got != want || err != e {
		t.Fatalf("End(%q, %d) = %d, %d, not %d, %d", s, from, got, err, want, e)
	}
}

// asTheChapterSays: Unescape of raw is what the chapter's words and the language's library say.
func asTheChapterSays(t *testing.T, raw string) {
	t.Helper()
	want, e := wanted(raw)
	sameUnescape(t, raw, want, e)
	if s, err := library(raw); s != want || err != e {
		t.Fatalf("%q: the library says %q, %d, not %q, %d", raw, s, err, want, e)
	}
}

// rows: every row of at most n parts.
func rows(n int, parts ...string) []string {
	list := []string{""}
	last := list
	for range n {
		var next []string
		for _, s := range last {
			for _, p := range parts {
				next = append(next, s+p)
			}
		}
		list = append(list, next...)
		last = next
	}
	return list
}

// rule: ordinary numbers from a fixed rule.
type rule uint64

func (r *rule) below(n int) int {
	*r = *r*6364136223846793005 + 1442695040888963407
	return int((uint64(*r) ^ uint64(*r)>>29) % uint64(n))
}

func (r *rule) mixed(n int, parts []string) string {
	var b strings.Builder
	for range n {
		b.WriteString(parts[r.below(len(parts))])
	}
	return b.String()
}

// char: the form of a character; false, if the number is none.
func char(n int) (string, bool) {
	if isHigh(rune(n)) || isLow(rune(n)) {
		return "", false
	}
	return string(rune(n)), true
}

func small(n int) string { return fmt.Sprintf(`\u%04x`, n) }
func great(n int) string { return fmt.Sprintf(`\u%04X`, n) }

// bytesOf: the byte by itself.
func bytesOf(x int) string { return string([]byte{byte(x)}) }

// Raws that are right: parts of one thing or two each, all kinds of them.
var right = []string{"a", " ", "\x7f", "/", "u", "\u00e4", "\u07ff", "\u0800", "\ufffd", "\uffff", "\U00010000", "\U0010ffff", `\"`, `\\`, `\/`, `\b`, `\f`, `\n`, `\r`, `\t`, `\u0000`, `\u001f`, `\u0022`, `\u005c`, `\u0041`, `\u00E4`, `\ud7ff`, `\uD800`, `\udbff`, `\uDC00`, `\udfff`, `\ue000`, `\ufffd`, `\uFFFE`, `\uffff`, `\ud83d\ude00`}

// Raws that are UTF-8 and not right.
var wrong = []string{`"`, `\`, `\x`, `\u`, `\u1`, `\u12`, `\u123`, `\u12g4`, `\U0041`, "\x00", "\t", "\n", "\x1f", `\0`, `\'`, `\a`, `\v`, "\\\u00e4", "\\u00\u00e4", "\\\n"}

// Texts that aren't UTF-8: bytes that begin nothing, forms that are cut off, those that are too long, halves of pairs, what is above the last character.
var notUTF8 = []string{"\xff", "\xfe", "\x80", "\xbf", "\xc3", "\xe2\x82", "\xf0\x9f\x98", "\xc0\xaf", "\xc1\xbf", "\xe0\x80\xaf", "\xed\xa0\x80", "\xed\xaf\xbf", "\xed\xb0\x80", "\xed\xbf\xbf", "\xed\xa0\xbd\xed\xb8\x80", "\xf4\x90\x80\x80", "\xf5\x80\x80\x80", "\xe2\x28\xa1"}

// P15.1

func TestUnescapeExamples(t *testing.T) {
	for _, x := range []struct{ raw, want string }{
		{`a\n\u0041`, "a\x0aA"},
		{`\/`, "/"},
		{`\ud83d\ude00`, "\U0001f600"},
		{`\ud83d`, "\ufffd"},
		{`\ude00`, "\ufffd"},
		{`\ude00\ud83d`, "\ufffd\ufffd"},
		{`\ud83d\u0041`, "\ufffdA"},
		{`\ud83d\ud83d\ude00`, "\ufffd\U0001f600"},
		{"", ""},
	} {
		sameUnescape(t, x.raw, x.want, api.OK)
	}
	for _, raw := range []string{`\`, `\x`, `\u12`, `\u12g4`, `"`, "\x09", `\u`, `\U0041`} {
		sameUnescape(t, raw, "", api.ErrText)
	}
	for _, raw := range []string{"\xff", "\\x\xff"} {
		sameUnescape(t, raw, "", api.ErrUTF8)
	}
}

func TestUnescapeShortEscapes(t *testing.T) {
	for _, x := range []struct {
		letter byte
		want   string
	}{{'"', "\x22"}, {'\\', "\x5c"}, {'/', "\x2f"}, {'b', "\x08"}, {'f', "\x0c"}, {'n', "\x0a"}, {'r', "\x0d"}, {'t', "\x09"}} {
		raw := `\` + string([]byte{x.letter})
		sameUnescape(t, raw, x.want, api.OK)
		sameUnescape(t, "a"+raw+"b", "a"+x.want+"b", api.OK)
		sameUnescape(t, raw+raw+raw, x.want+x.want+x.want, api.OK)
		sameUnescape(t, "\u00e4"+raw+"\U0001f600", "\u00e4"+x.want+"\U0001f600", api.OK)
	}
}

// Every byte behind a backslash, with nothing behind it and with what four digits could be.
func TestUnescapeOfEveryByteBehindABackslash(t *testing.T) {
	for x := range 256 {
		e := api.OK
		switch {
		case x >= 128:
			e = api.ErrUTF8
		case !strings.Contains(`"\/bfnrt`, bytesOf(x)):
			e = api.ErrText
		}
		raw := `\` + bytesOf(x)
		if _, err := Unescape(raw); err != e {
			t.Fatalf("Unescape(%q): %d, not %d", raw, err, e)
		}
		for _, raw := range []string{raw, "a" + raw, raw + "0041", raw + "a", `\\` + raw, `\n` + raw + `\n`, "\\" + raw} {
			asTheChapterSays(t, raw)
		}
	}
}

// Characters of more than one byte behind a backslash: it escapes none of them.
func TestUnescapeOfALongFormBehindABackslash(t *testing.T) {
	for _, s := range []string{"\u0080", "\u00e4", "\u0100", "\u0162", "\u0175", "\u2022", "\u0475", "\uff55", "\ufffd", "\U0001f600", "\U00010075", "\U0010ffff"} {
		for _, raw := range []string{`\` + s, "a\\" + s, `\` + s + "0041", `\u` + s, `\u0` + s, `\u00` + s, `\u004` + s} {
			sameUnescape(t, raw, "", api.ErrText)
		}
		sameUnescape(t, `\\`+s, `\`+s, api.OK)
		sameUnescape(t, `\u0041`+s, "A"+s, api.OK)
	}
}

func TestUnescapeOfABackslashAtTheEnd(t *testing.T) {
	for n := range 20 {
		for _, ahead := range []string{"", "a", "\u00e4", `\n`, `\u0041`, `\ud83d`} {
			raw := ahead + strings.Repeat(`\`, n)
			if n%2 == 1 {
				sameUnescape(t, raw, "", api.ErrText)
				continue
			}
			means, _ := wanted(ahead)
			sameUnescape(t, raw, means+strings.Repeat(`\`, n/2), api.OK)
		}
	}
}

// A u with too few digits: at the end, and ahead of what is none.
func TestUnescapeOfTooFewDigits(t *testing.T) {
	for _, digits := range []string{"", "0", "00", "004", "f", "fF", "abc", "d83", "9"} {
		for _, behind := range []string{"", "g", " ", "\"", `\`, `\n`, `\u0041`, "x000", "/41", "\u00e4", "-", "+", "_", ".", "u0041", "G41", "\x00", "\x1f"} {
			for _, ahead := range []string{"", "a", `\\`, `\ud83d`} {
				sameUnescape(t, ahead+`\u`+digits+behind, "", api.ErrText)
			}
		}
	}
	for _, behind := range []string{"", "g", "1", "\u00e4", `\n`} {
		means, _ := wanted(behind)
		sameUnescape(t, `\u0041`+behind, "A"+means, api.OK)
	}
}

// Every byte in the place of each of the four digits, those right beside the three rows of digits among them.
func TestUnescapeOfEveryByteAsADigit(t *testing.T) {
	for _, digits := range []string{"0041", "Ff9a", "d83d"} {
		for at := range 4 {
			for x := range 256 {
				raw := `\u` + digits[:at] + bytesOf(x) + digits[at+1:]
				is := x >= '0' && x <= '9' || x >= 'a' && x <= 'f' || x >= 'A' && x <= 'F'
				_, e := Unescape(raw)
				if is != (e == api.OK) || x >= 128 && e != api.ErrUTF8 || !is && x < 128 && e != api.ErrText {
					t.Fatalf("Unescape(%q): %d", raw, e)
				}
				asTheChapterSays(t, raw)
				asTheChapterSays(t, raw+"0")
			}
		}
	}
	for _, beside := range "/:@G`g" {
		sameUnescape(t, `\u000`+string(beside), "", api.ErrText)
		sameUnescape(t, `\u`+string(beside)+"000", "", api.ErrText)
	}
}

func TestUnescapeOfDigitsInSmallAndGreatLetters(t *testing.T) {
	for _, raw := range []string{`\uabcd`, `\uABCD`, `\uaBcD`, `\uAbCd`} {
		sameUnescape(t, raw, "\uabcd", api.OK)
	}
	sameUnescape(t, `\uefEF`, "\uefef", api.OK)
	sameUnescape(t, `\u0123\u4567\u89aB`, "\u0123\u4567\u89ab", api.OK)
	sameUnescape(t, `\uD83D\ude00`, "\U0001f600", api.OK)
	sameUnescape(t, `\ud83D\uDE00`, "\U0001f600", api.OK)
}

func TestUnescapeOfAGreatU(t *testing.T) {
	for _, raw := range []string{`\U0041`, `\U`, `\U00000041`, `a\U0041`, `\ud83d\Ude00`, `\Ud83d\ude00`, `\u0041\U0041`} {
		sameUnescape(t, raw, "", api.ErrText)
	}
}

func TestUnescapeOfEveryCharacter(t *testing.T) {
	for n := range utf8.MaxRune + 1 {
		s, ok := char(int(n))
		if !ok {
			continue
		}
		if n < 32 || n == 34 || n == 92 {
			sameUnescape(t, s, "", api.ErrText)
			sameUnescape(t, "a"+s+" ", "", api.ErrText)
			continue
		}
		sameUnescape(t, s, s, api.OK)
		sameUnescape(t, `\t`+s+"b", "\t"+s+"b", api.OK)
	}
}

func TestUnescapeOfCharactersAtTheEdges(t *testing.T) {
	for _, n := range []int{32, 33, 35, 47, 91, 93, 126, 127, 128, 0xe4, 0x7ff, 0x800, 0xd7ff, 0xe000, 0xfffd, 0xfffe, 0xffff, 0x10000, 0x1f600, 0x10ffff} {
		s, _ := char(n)
		sameUnescape(t, s, s, api.OK)
	}
	for _, n := range []int{0, 1, 8, 9, 10, 12, 13, 30, 31, 34} {
		s, _ := char(n)
		for _, raw := range []string{s, s + "a", "a" + s, `\n` + s, s + `\n`, "\u00e4" + s, s + s} {
			sameUnescape(t, raw, "", api.ErrText)
		}
	}
}

// All numbers that four digits can be, each alone.
func TestUnescapeOfEveryNumber(t *testing.T) {
	for n := range 0x10000 {
		want := "\ufffd"
		if s, ok := char(n); ok {
			want = s
		}
		sameUnescape(t, small(n), want, api.OK)
		sameUnescape(t, great(n)+"0", want+"0", api.OK)
	}
}

func TestUnescapeOfNumbersAtTheEdges(t *testing.T) {
	for _, x := range []struct{ raw, want string }{
		{`\u0000`, "\x00"},
		{`\u001f`, "\x1f"},
		{`\u0022`, "\x22"},
		{`\u005c`, "\x5c"},
		{`\u005cn`, "\x5cn"},
		{`\u005cu0041`, "\x5cu0041"},
		{`\u0022\u005c`, "\x22\x5c"},
		{`\u007f`, "\x7f"},
		{`\u0080`, "\xc2\x80"},
		{`\u07ff`, "\xdf\xbf"},
		{`\u0800`, "\xe0\xa0\x80"},
		{`\ud7ff`, "\xed\x9f\xbf"},
		{`\ud800`, "\xef\xbf\xbd"},
		{`\udbff`, "\xef\xbf\xbd"},
		{`\udc00`, "\xef\xbf\xbd"},
		{`\udfff`, "\xef\xbf\xbd"},
		{`\ue000`, "\xee\x80\x80"},
		{`\ufffd`, "\xef\xbf\xbd"},
		{`\ufffe`, "\xef\xbf\xbe"},
		{`\uffff`, "\xef\xbf\xbf"},
	} {
		sameUnescape(t, x.raw, x.want, api.OK)
	}
}

// All pairs: from the least one to the greatest each means the next character.
func TestUnescapeOfEveryPair(t *testing.T) {
	sameUnescape(t, `\ud800\udc00`, "\xf0\x90\x80\x80", api.OK)
	sameUnescape(t, `\ud800\udfff`, "\U000103ff", api.OK)
	sameUnescape(t, `\ud801\udc00`, "\U00010400", api.OK)
	sameUnescape(t, `\udbff\udfff`, "\xf4\x8f\xbf\xbf", api.OK)
	next := 0x10000
	for high := 0xd800; high <= 0xdbff; high++ {
		first := small(high)
		for low := 0xdc00; low <= 0xdfff; low++ {
			sameUnescape(t, first+`\u`+strconv.FormatInt(int64(low), 16), string(rune(next)), api.OK)
			next++
		}
	}
	if next != 0x110000 {
		t.Fatalf("%x", next)
	}
}

// Of every number ahead of a low half, and behind a high one, only the right ones make a pair.
func TestUnescapeOfEveryNumberBesideAHalf(t *testing.T) {
	for n := range 0x10000 {
		own := "\ufffd"
		if s, ok := char(n); ok {
			own = s
		}
		ahead, behind := own+"\ufffd", "\ufffd"+own
		if isHigh(rune(n)) {
			ahead = string(utf16.DecodeRune(rune(n), 0xdc00))
		}
		if isLow(rune(n)) {
			behind = string(utf16.DecodeRune(0xdbff, rune(n)))
		}
		sameUnescape(t, small(n)+`\udc00`, ahead, api.OK)
		sameUnescape(t, `\uDBFF`+great(n), behind, api.OK)
	}
}

func TestUnescapeOfAHighHalfAheadOfAnything(t *testing.T) {
	const half = "\ufffd"
	for _, x := range []struct{ behind, want string }{
		{"", half},
		{"a", half + "a"},
		{" ", half + " "},
		{"u", half + "u"},
		{"ude00", half + "ude00"},
		{"de00", half + "de00"},
		{"\u00e4", half + "\u00e4"},
		{"\U0001f600", half + "\U0001f600"},
		{half, half + half},
		{`\n`, half + "\n"},
		{`\"`, half + `"`},
		{`\\`, half + `\`},
		{`\/`, half + "/"},
		{`\\ude00`, half + `\ude00`},
		{`\u005cude00`, half + `\ude00`},
		{`\u0041`, half + "A"},
		{`\ud7ff`, half + "\ud7ff"},
		{`\ue000`, half + "\ue000"},
		{`\ufffd`, half + half},
		{` \ude00`, half + " " + half},
		{`\n\ude00`, half + "\n" + half},
		{`\u0000\ude00`, half + "\x00" + half},
		{`\ud83d`, half + half},
		{`\ud83d\ude00`, half + "\U0001f600"},
		{`\ud83d\ud83d\ude00`, half + half + "\U0001f600"},
		{`\ude00`, "\U0001f600"},
		{`\ude00\ude00`, "\U0001f600" + half},
		{`\ude00\ud83d`, "\U0001f600" + half},
		{`\ude00\ud83d\ude00`, "\U0001f600\U0001f600"},
	} {
		sameUnescape(t, `\ud83d`+x.behind, x.want, api.OK)
		sameUnescape(t, `ab\n\ud83d`+x.behind, "ab\n"+x.want, api.OK)
	}
	for _, behind := range wrong {
		sameUnescape(t, `\ud83d`+behind, "", api.ErrText)
	}
	for _, behind := range []string{`\ude0`, `\ude`, `\ud`, `\ude0g`, `\Ude00`, `\de00`, `\`, `"\ude00`, "\x1f" + `\ude00`} {
		sameUnescape(t, `\ud83d`+behind, "", api.ErrText)
	}
	for _, behind := range notUTF8 {
		sameUnescape(t, `\ud83d`+behind, "", api.ErrUTF8)
	}
}

func TestUnescapeOfLowHalves(t *testing.T) {
	for n := range 9 {
		for _, low := range []string{`\udc00`, `\uDE00`, `\udfff`} {
			sameUnescape(t, strings.Repeat(low, n), strings.Repeat("\ufffd", n), api.OK)
			sameUnescape(t, strings.Repeat(low+"a", n), strings.Repeat("\ufffda", n), api.OK)
			sameUnescape(t, strings.Repeat(low+`\ud83d`, n), strings.Repeat("\ufffd", min(n, 1))+strings.Repeat(pairOf(low), max(n-1, 0))+strings.Repeat("\ufffd", min(n, 1)), api.OK)
		}
	}
}

// pairOf: the character of d83d and a low half.
func pairOf(low string) string { return string(utf16.DecodeRune(0xd83d, number(low))) }

// A high half that is written as bytes is no UTF-8; so is a pair of such.
func TestUnescapeOfHalvesAsBytes(t *testing.T) {
	for n := 0xd800; n <= 0xdfff; n++ {
		s := string([]byte{0xe0 + byte(n>>12), 0x80 + byte(n>>6&63), 0x80 + byte(n&63)})
		for _, raw := range []string{s, "a" + s, s + "a", `\ud83d` + s, s + `\ude00`, `\u0041` + s, s + s} {
			sameUnescape(t, raw, "", api.ErrUTF8)
		}
	}
	sameUnescape(t, "\xed\xa0\xbd\xed\xb8\x80", "", api.ErrUTF8)
}

// ErrUTF8 goes ahead of ErrText, wherever the two faults stand.
func TestUnescapeOfWhatIsNotUTF8(t *testing.T) {
	for _, bad := range notUTF8 {
		sameUnescape(t, bad, "", api.ErrUTF8)
		for _, other := range slices.Concat(wrong, right) {
			sameUnescape(t, other+bad, "", api.ErrUTF8)
			sameUnescape(t, bad+other, "", api.ErrUTF8)
			sameUnescape(t, other+"a"+bad+"a"+other, "", api.ErrUTF8)
			sameUnescape(t, other+strings.Repeat("a", 200)+bad, "", api.ErrUTF8)
		}
	}
	for _, raw := range []string{"\\\xff", "\\u\xff", "\\u0\xff41", "\\u004\xff", "\\u0041\xff", "\\\xc3", "\"\xff", "\x00\xff", "\xff\\"} {
		sameUnescape(t, raw, "", api.ErrUTF8)
	}
}

func TestUnescapeOfWhatIsNotRight(t *testing.T) {
	for _, raw := range wrong {
		sameUnescape(t, raw, "", api.ErrText)
		for _, other := range right {
			// What stands ahead may be anything that is right: it ends ahead of the fault.
			sameUnescape(t, other+raw, "", api.ErrText)
			if _, e := wanted(raw + other); e == api.ErrText {
				sameUnescape(t, raw+other, "", api.ErrText)
			}
			asTheChapterSays(t, raw+other)
			asTheChapterSays(t, other+raw+other)
		}
	}
}

func TestUnescapeOfShortTexts(t *testing.T) {
	for _, raw := range rows(5, `\`, "u", `"`, "n", "d", "0", "\x1f", "\u00e4", "\xff") {
		asTheChapterSays(t, raw)
	}
}

func TestUnescapeOfRowsOfThings(t *testing.T) {
	for _, raw := range rows(4, "a", "\u00e4", `\n`, `\\`, `\u0041`, `\ud83d`, `\uDBFF`, `\ude00`, `\uDC00`, `\ud7ff`, `\ue000`, `\`, `u`, "de00") {
		asTheChapterSays(t, raw)
	}
	for _, raw := range rows(8, `\ud800`, `\udfff`, `x`) {
		asTheChapterSays(t, raw)
	}
}

func TestUnescapeOfMixedTexts(t *testing.T) {
	var r rule = 15
	some := slices.Concat(right, right, right, wrong, notUTF8[:2])
	for n := range 3000 {
		asTheChapterSays(t, r.mixed(n%40, right))
		asTheChapterSays(t, r.mixed(n%25, some))
	}
}

func TestUnescapeOfLongTexts(t *testing.T) {
	const n = 1 << 18
	long := strings.Repeat("\u00e4", n)
	sameUnescape(t, long, long, api.OK)
	sameUnescape(t, strings.Repeat(`\\`, n), strings.Repeat(`\`, n), api.OK)
	sameUnescape(t, strings.Repeat(`\ud83d`, n), strings.Repeat("\ufffd", n), api.OK)
	sameUnescape(t, strings.Repeat(`\ud83d\ude00`, n), strings.Repeat("\U0001f600", n), api.OK)
	sameUnescape(t, strings.Repeat(`a\u0041`, n), strings.Repeat("aA", n), api.OK)
	sameUnescape(t, long+`\`, "", api.ErrText)
	sameUnescape(t, `\x`+long+"\xff", "", api.ErrUTF8)
}

// P15.2

func TestEscapeExamples(t *testing.T) {
	sameEscape(t, "\"\t\x01\x7f\u00e4", `\"\t\u0001`+"\x7f\u00e4", api.OK)
	sameEscape(t, "\xff", "", api.ErrUTF8)
}

func TestEscapeBelow32(t *testing.T) {
	for x, want := range []string{
		`\u0000`, `\u0001`, `\u0002`, `\u0003`, `\u0004`, `\u0005`, `\u0006`, `\u0007`,
		`\b`, `\t`, `\n`, `\u000b`, `\f`, `\r`, `\u000e`, `\u000f`,
		`\u0010`, `\u0011`, `\u0012`, `\u0013`, `\u0014`, `\u0015`, `\u0016`, `\u0017`,
		`\u0018`, `\u0019`, `\u001a`, `\u001b`, `\u001c`, `\u001d`, `\u001e`, `\u001f`,
		" ",
	} {
		s := bytesOf(x)
		sameEscape(t, s, want, api.OK)
		sameEscape(t, "a"+s+"b", "a"+want+"b", api.OK)
		sameEscape(t, s+s+"\u00e4"+s, want+want+"\u00e4"+want, api.OK)
	}
}

func TestEscapeOfOthers(t *testing.T) {
	for _, x := range []struct{ s, want string }{
		{"", ""},
		{`"`, `\"`},
		{`\`, `\\`},
		{"/", "/"},
		{"'", "'"},
		{"<&>", "<&>"},
		{"\x7f", "\x7f"},
		{"\u0080", "\u0080"},
		{"\u00e4", "\u00e4"},
		{"\u2028\u2029", "\u2028\u2029"},
		{"\u20ac", "\u20ac"},
		{"\ufffd", "\ufffd"},
		{"\ufeff", "\ufeff"},
		{"\uffff", "\uffff"},
		{"\U0001f600", "\U0001f600"},
		{"\U0010ffff", "\U0010ffff"},
		{`""`, `\"\"`},
		{`\"`, `\\\"`},
		{`\n`, `\\n`},
		{`\u0041`, `\\u0041`},
		{`\ud83d`, `\\ud83d`},
		{"\\\\\\", `\\\\\\`},
	} {
		sameEscape(t, x.s, x.want, api.OK)
	}
}

func TestEscapeOfEveryCharacter(t *testing.T) {
	for n := range utf8.MaxRune + 1 {
		s, ok := char(int(n))
		if !ok {
			continue
		}
		want := s
		if n < 128 {
			want, _ = wantedEscape(s)
		}
		sameEscape(t, s, want, api.OK)
	}
}

func TestEscapeOfWhatIsNotUTF8(t *testing.T) {
	for _, bad := range notUTF8 {
		for _, other := range slices.Concat(right, wrong) {
			sameEscape(t, bad, "", api.ErrUTF8)
			sameEscape(t, other+bad, "", api.ErrUTF8)
			sameEscape(t, bad+other, "", api.ErrUTF8)
			sameEscape(t, other+bad+other, "", api.ErrUTF8)
		}
	}
	for x := 128; x < 256; x++ {
		sameEscape(t, bytesOf(x), "", api.ErrUTF8)
		sameEscape(t, "a\n"+bytesOf(x)+"\"", "", api.ErrUTF8)
	}
}

func TestEscapeOfShortTexts(t *testing.T) {
	for _, s := range rows(4, `\`, "u", `"`, "/", "\n", "\x00", "\x1f", "\x7f", "\u00e4", "\U0001f600", "\xff", "\xe2\x82") {
		want, e := wantedEscape(s)
		sameEscape(t, s, want, e)
	}
}

func TestEscapeOfLongTexts(t *testing.T) {
	const n = 1 << 18
	sameEscape(t, strings.Repeat("\x00", n), strings.Repeat(`\u0000`, n), api.OK)
	sameEscape(t, strings.Repeat("a\u00e4", n), strings.Repeat("a\u00e4", n), api.OK)
	sameEscape(t, strings.Repeat(`\"`, n), strings.Repeat(`\\\"`, n), api.OK)
	sameEscape(t, strings.Repeat("a", n)+"\xc3", "", api.ErrUTF8)
}

// P15.3

func TestSameExamples(t *testing.T) {
	for _, x := range []struct {
		raw, s string
		want   bool
	}{
		{`\u0061`, "a", true},
		{"a", "b", false},
		{`\`, "a", false},
		{`\x`, "", false},
		{`\ud800`, "\ufffd", true},
	} {
		if got := Same(x.raw, x.s); got != x.want {
			t.Errorf("Same(%q, %q) = %v", x.raw, x.s, got)
		}
	}
}

func TestSame(t *testing.T) {
	for _, x := range []struct {
		raw, s string
		want   bool
	}{
		{"", "", true},
		{"", "a", false},
		{"a", "", false},
		{"a", "a", true},
		{"a", "A", false},
		{"ab", "a", false},
		{"a", "ab", false},
		{`a\u0062`, "ab", true},
		{`a\u0062`, "a", false},
		{`a\u0062`, "abc", false},
		{`a\u0062`, `a\u0062`, false},
		{`\n`, "\n", true},
		{`\n`, "n", false},
		{`\n`, `\n`, false},
		{`\\n`, `\n`, true},
		{`\\`, `\`, true},
		{`\"`, `"`, true},
		{`"`, `"`, false},
		{"\n", "\n", false},
		{`\u0000`, "\x00", true},
		{`\u0000`, "", false},
		{`a\`, "a", false},
		{`a\x`, "a", false},
		{`a\u12`, "a", false},
		{`\ud83d\ude00`, "\U0001f600", true},
		{`\ud83d\ude00`, "\ufffd\ufffd", false},
		{`\ude00\ud83d`, "\ufffd\ufffd", true},
		{`\ud800`, `\udfff`, false},
		{"\ufffd", "\ufffd", true},
		{"\xff", "", false},
		{"\xff", "\xff", false},
		{"\xff", "\ufffd", false},
		{"a\xff", "a", false},
		{"\ufffd", "\xff", false},
		{`\ud800`, "\xed\xa0\x80", false},
		{`\ud800`, "\xff", false},
		{"\xed\xa0\x80", "\ufffd", false},
		{"\u00e4", "\xe4", false},
		{"\u00e4", "\xc3", false},
		{`\u00e4`, "\u00e4", true},
		{`\u00e4`, "\xe4", false},
		{`\u0061\u0308`, "\u00e4", false},
	} {
		if got := Same(x.raw, x.s); got != x.want {
			t.Errorf("Same(%q, %q) = %v", x.raw, x.s, got)
		}
	}
}

// Of each two, whether the one means the other.
func TestSameIsWhatUnescapeSays(t *testing.T) {
	list := slices.Concat(right, wrong, notUTF8, rows(3, `\`, "n", "\n", "a", "\xff"))
	for _, raw := range list {
		means, e := Unescape(raw)
		if e != api.OK && Same(raw, "") {
			t.Fatalf("Same(%q, the empty text), which isn't right", raw)
		}
		if e == api.OK && !Same(raw, means) {
			t.Fatalf("not Same(%q, %q)", raw, means)
		}
		for _, s := range list {
			if got := Same(raw, s); got != (e == api.OK && means == s) {
				t.Fatalf("Same(%q, %q) = %v", raw, s, got)
			}
			for _, s := range []string{means + s, s + means} {
				if got := Same(raw, s); got != (e == api.OK && means == s) {
					t.Fatalf("Same(%q, %q) = %v", raw, s, got)
				}
			}
		}
	}
}

// P15.4

func TestEndExamples(t *testing.T) {
	for _, x := range []struct {
		s          string
		from, want int
		e          api.Errno
	}{
		{`a"b"`, 0, 1, api.OK},
		{`a\"b"`, 0, 4, api.OK},
		{`a\"b"`, 2, 2, api.OK},
		{"a", 0, 0, api.ErrText},
		{"", 0, 0, api.ErrText},
		{"a", 2, 0, api.ErrRange},
		{"a", -1, 0, api.ErrRange},
		{`""`, 1, 1, api.OK},
	} {
		sameEnd(t, x.s, x.from, x.want, x.e)
	}
}

func TestEnd(t *testing.T) {
	for _, x := range []struct {
		s          string
		from, want int
		e          api.Errno
	}{
		{`"`, 0, 0, api.OK},
		{`"`, 1, 0, api.ErrText},
		{`""`, 0, 0, api.OK},
		{`""`, 2, 0, api.ErrText},
		{`\"`, 0, 0, api.ErrText},
		{`\"`, 1, 1, api.OK},
		{`\""`, 0, 2, api.OK},
		{`\"\"`, 0, 0, api.ErrText},
		{`\"\"`, 1, 1, api.OK},
		{`\"\"`, 2, 0, api.ErrText},
		{`\"\"`, 3, 3, api.OK},
		{`\"\"`, 4, 0, api.ErrText},
		{`\\"`, 0, 2, api.OK},
		{`\\"`, 1, 0, api.ErrText},
		{`\\"`, 2, 2, api.OK},
		{`\\\"`, 0, 0, api.ErrText},
		{`\\\"`, 1, 3, api.OK},
		{`{"a": "b\\", "c": 1}`, 2, 3, api.OK},
		{`{"a": "b\\", "c": 1}`, 7, 10, api.OK},
		{"\x00\n\xff\"", 0, 3, api.OK},
		{`\x\u12"`, 0, 6, api.OK},
		{"\u00e4\"", 1, 2, api.OK},
		{"\xdc\"", 0, 1, api.OK},
		{"\xa2\"", 0, 1, api.OK},
		{"'", 0, 0, api.ErrText},
		{`\u0022`, 0, 0, api.ErrText},
	} {
		sameEnd(t, x.s, x.from, x.want, x.e)
	}
}

func TestEndOutsideOfTheText(t *testing.T) {
	for _, s := range []string{"", `"`, "a", `a"b"`, `\`, `\"`, strings.Repeat(`"`, 100), "\xff"} {
		for _, from := range []int{math.MinInt, math.MinInt + 1, math.MinInt32, -len(s) - 1, -2, -1, len(s) + 1, len(s) + 2, math.MaxInt32, math.MaxInt - 1, math.MaxInt} {
			sameEnd(t, s, from, 0, api.ErrRange)
		}
		sameEnd(t, s, len(s), 0, api.ErrText)
	}
}

// Rows of backslashes ahead of a quote, from each of their places on.
func TestEndBehindBackslashes(t *testing.T) {
	for _, ahead := range []string{"", "a", `"`, `\n`, strings.Repeat("b", 63)} {
		for n := range 140 {
			row := ahead + strings.Repeat(`\`, n)
			for k := range n + 1 {
				from := len(ahead) + k
				if (n-k)%2 == 0 {
					sameEnd(t, row+`"`, from, len(row), api.OK)
					sameEnd(t, row+`""`, from, len(row), api.OK)
					continue
				}
				sameEnd(t, row+`"`, from, 0, api.ErrText)
				sameEnd(t, row+`""`, from, len(row)+1, api.OK)
				sameEnd(t, row+`"a"`, from, len(row)+2, api.OK)
			}
		}
	}
}

func TestEndOfEveryByte(t *testing.T) {
	for x := range 256 {
		for _, s := range []string{bytesOf(x), bytesOf(x) + `"`, bytesOf(x) + `""`, `\` + bytesOf(x), `\` + bytesOf(x) + `"`, `\\` + bytesOf(x) + `"`} {
			for from := range len(s) + 1 {
				want, e := wantedEnd(s, from)
				sameEnd(t, s, from, want, e)
			}
		}
	}
}

func TestEndOfShortTexts(t *testing.T) {
	for _, s := range rows(8, `\`, `"`, "a") {
		for from := -2; from <= len(s)+2; from++ {
			want, e := wantedEnd(s, from)
			sameEnd(t, s, from, want, e)
		}
	}
}

func TestEndOfMixedTexts(t *testing.T) {
	var r rule = 4
	for n := range 300 {
		s := r.mixed(n, []string{`\`, `\`, `\`, "a", "\u00e4", "\xff", `\"`, `\"`, "n"}) + r.mixed(n%3, []string{`"`})
		for from := -1; from <= len(s)+1; from++ {
			want, e := wantedEnd(s, from)
			sameEnd(t, s, from, want, e)
		}
	}
}

func TestEndOfLongTexts(t *testing.T) {
	const n = 1 << 20
	s := strings.Repeat(`\"`, n) + `"`
	sameEnd(t, s, 0, 2*n, api.OK)
	sameEnd(t, s, 1, 1, api.OK)
	sameEnd(t, s[:2*n], 0, 0, api.ErrText)
	s = strings.Repeat(`\`, 2*n) + `"`
	sameEnd(t, s, 0, 2*n, api.OK)
	sameEnd(t, s, 1, 0, api.ErrText)
	sameEnd(t, strings.Repeat("a", n), 0, 0, api.ErrText)
}

// P15.5

// utf8Texts: texts that are UTF-8, right and not as raws.
func utf8Texts() []string {
	list := slices.Concat(right, wrong, rows(4, `\`, `"`, "u", "\x00", "\n", "\x7f", "\u00e4", "\U0001f600"))
	var r rule = 5
	for n := range 200 {
		list = append(list, r.mixed(n, slices.Concat(right, wrong)))
	}
	return list
}

func TestUnescapeOfEscape(t *testing.T) {
	for _, s := range utf8Texts() {
		raw, e := Escape(s)
		if e != api.OK {
			t.Fatalf("Escape(%q): %d", s, e)
		}
		sameUnescape(t, raw, s, api.OK)
		if !Same(raw, s) {
			t.Fatalf("not Same(%q, %q)", raw, s)
		}
		if means, err := library(raw); means != s || err != api.OK {
			t.Fatalf("%q: the library reads %q, %d", raw, means, err)
		}
	}
}

func TestUnescapeOfEscapeOfEveryCharacter(t *testing.T) {
	for n := range utf8.MaxRune + 1 {
		if s, ok := char(int(n)); ok {
			raw, _ := Escape(s)
			sameUnescape(t, raw, s, api.OK)
		}
	}
}

func TestEscapeIsRight(t *testing.T) {
	for _, s := range utf8Texts() {
		raw, _ := Escape(s)
		if _, ok := things(raw); !ok || !utf8.ValidString(raw) {
			t.Fatalf("Escape(%q) = %q", s, raw)
		}
		if strings.ContainsFunc(raw, func(r rune) bool { return r < 32 }) {
			t.Fatalf("Escape(%q) = %q", s, raw)
		}
	}
}

func TestUnescapeAnswersUTF8(t *testing.T) {
	list := slices.Concat(right, wrong, notUTF8, rows(4, `\ud83d`, `\udbff`, `\ude00`, `\uffff`, "\u00e4", "\xed\xa0\x80", `\`))
	var r rule = 6
	for n := range 500 {
		list = append(list, r.mixed(n%50, right))
	}
	for _, raw := range list {
		if s, _ := Unescape(raw); !utf8.ValidString(s) {
			t.Fatalf("Unescape(%q) = %q", raw, s)
		}
	}
}

// someRight: raws that are right, of no thing, one, two and many.
func someRight() []string {
	list := rows(2, right...)
	var r rule = 7
	for n := range 200 {
		list = append(list, r.mixed(n, right))
	}
	return list
}

func TestEndOfWhatIsRight(t *testing.T) {
	for _, raw := range someRight() {
		for _, behind := range []string{"", `"`, "a", `\`, `\"`, `"a"`, `, "b": 1}`, "\xff", "\x00", raw, raw + `"`} {
			sameEnd(t, raw+`"`+behind, 0, len(raw), api.OK)
		}
		// By itself it has no end.
		sameEnd(t, raw, 0, 0, api.ErrText)
	}
}

func TestUnescapeOfTwoThatAreRight(t *testing.T) {
	list := append(rows(1, right...), "ab", `a\ud83d`, `\ude00a`, `\ud83d\ud83d`, `\ude00\ude00`, `\ude00\ud83d`, `\ud83d\ude00\ud83d`, `\ude00\ud83d\ude00`, `\\ud83d`, `\ud83d\\`, `\u0041\uDBff`, "ude00", `\n\udbFF`)
	seams := 0
	for _, a := range list {
		for _, b := range list {
			first, _ := Unescape(a)
			second, _ := Unescape(b)
			before, _ := things(a)
			after, _ := things(b)
			want := first + second
			if n, m := len(before), len(after); n > 0 && m > 0 && isHigh(number(before[n-1])) && isLow(number(after[0])) {
				seams++
				pair := string(utf16.DecodeRune(number(before[n-1]), number(after[0])))
				want = strings.TrimSuffix(first, "\ufffd") + pair + strings.TrimPrefix(second, "\ufffd")
			}
			sameUnescape(t, a+b, want, api.OK)
		}
	}
	if seams < 20 {
		t.Fatalf("only %d pairs at the seam", seams)
	}
}

// Sameness

// asked: all that the calls answer of a text.
func asked(s string) string {
	means, e1 := Unescape(s)
	raw, e2 := Escape(s)
	end, e3 := End(s, len(s)/2)
	return fmt.Sprintf("%q %d %q %d %d %d %v %v", means, e1, raw, e2, end, e3, Same(s, means), Same(raw, s))
}

func TestTheSameAgainWhateverElseRuns(t *testing.T) {
	list := slices.Concat(right, wrong, notUTF8, rows(3, `\ud83d`, `\ude00`, `\"`, "a", `"`, "\xff"))
	want := make([]string, len(list))
	for i, s := range list {
		want[i] = asked(s)
	}
	var group sync.WaitGroup
	for k := range 8 {
		group.Go(func() {
			for i := range 3 * len(list) {
				at := (i*7 + k) % len(list)
				if got := asked(list[at]); got != want[at] {
					t.Errorf("%q: %s, not %s", list[at], got, want[at])
				}
			}
		})
	}
	group.Wait()
}

func ExampleUnescape() {
	s, err := Unescape(`b\u0063 \ud83d\ude00 \/`)
	fmt.Println(s, err)
	_, err = Unescape(`\x`)
	fmt.Println(err == api.ErrText)
	// Output:
	// bc 😀 / 0
	// true
}

func ExampleEscape() {
	raw, err := Escape("say \"ä\"\n")
	fmt.Println(raw, err)
	_, err = Escape("\xff")
	fmt.Println(err == api.ErrUTF8)
	// Output:
	// say \"ä\"\n 0
	// true
}

func ExampleSame() {
	fmt.Println(Same(`\u0061`, "a"), Same(`\x`, ""))
	// Output:
	// true false
}

func ExampleEnd() {
	fmt.Println(End(`{"a\"b": 1}`, 2))
	// Output:
	// 6 0
}
