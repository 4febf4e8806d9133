package utf8

import (
	"fmt"
	"iter"
	"math"
	"slices"
	"strings"
	"sync"
	"testing"
	library "unicode/utf8"
)

// character: the chapter's own word.
func character(c int) bool { return c >= 0 && c <= 1114111 && !(c >= 55296 && c <= 57343) }

// form: the chapter's formulas, by division alone, so that a wrong shift can't agree with itself. It is asked of numbers that are no characters too.
func form(c int) string {
	switch {
	case c < 128:
		return formOf(c, 1)
	case c < 2048:
		return formOf(c, 2)
	case c < 65536:
		return formOf(c, 3)
	}
	return formOf(c, 4)
}

// formOf: what c's form were, if it had to have n bytes.
func formOf(c, n int) string {
	switch n {
	case 1:
		return row(c)
	case 2:
		return row(192+c/64, 128+c%64)
	case 3:
		return row(224+c/4096, 128+c/64%64, 128+c%64)
	}
	return row(240+c/262144, 128+c/4096%64, 128+c/64%64, 128+c%64)
}

func row(list ...int) string {
	b := make([]byte, len(list))
	for i, x := range list {
		b[i] = byte(x)
	}
	return string(b)
}

func forms(list ...int) string {
	var s strings.Builder
	for _, c := range list {
		s.WriteString(form(c))
	}
	return s.String()
}

type book struct {
	whole map[string]int  // each form, and its character
	begun map[string]bool // what some form begins with, and isn't whole
}

var all = sync.OnceValue(func() book {
	b := book{make(map[string]int, 1112064), map[string]bool{}}
	for c := range 1114112 {
		if character(c) {
			f := form(c)
			b.whole[f] = c
			for n := 1; n < len(f); n++ {
				b.begun[f[:n]] = true
			}
		}
	}
	return b
})

type pair struct {
	at int
	r  rune
}

// plain reads a text by the forms themselves: its characters, and what Bad says of it.
func plain(s string) ([]pair, int) {
	var list []pair
	at := 0
	for at < len(s) {
		n := 1
		for at+n <= len(s) && all().begun[s[at:at+n]] {
			n++
		}
		if at+n > len(s) {
			return list, len(s)
		}
		c, ok := all().whole[s[at:at+n]]
		if !ok {
			return list, at + n - 1
		}
		list = append(list, pair{at, rune(c)})
		at += n
	}
	return list, -1
}

// beginning: is s a beginning of some text that is UTF-8?
func beginning(s string) bool {
	_, bad := plain(s)
	return bad == -1 || bad == len(s)
}

// edges: the least and the greatest character of each length of form, of each run of first bytes, and those beside them.
var edges = []int{0, 1, 9, 65, 97, 126, 127, 128, 129, 191, 192, 233, 255, 2046, 2047, 2048, 2049, 4095, 4096, 8364, 53247, 53248, 55294, 55295, 57344, 57345, 61439, 61440, 65533, 65534, 65535, 65536, 65537, 128512, 262143, 262144, 1048575, 1048576, 1114110, 1114111}

// strangers: numbers that are no characters, but that the formulas make rows of.
var strangers = []int{55296, 55297, 56319, 56320, 57342, 57343, 1114112, 1114113, 1179647, 1179648, 1310719, 1310720, 2097151}

var firsts = []int{0x00, 0x7f, 0x80, 0x81, 0xbf, 0xc0, 0xc1, 0xc2, 0xc3, 0xdf, 0xe0, 0xe1, 0xec, 0xed, 0xee, 0xef, 0xf0, 0xf1, 0xf3, 0xf4, 0xf5, 0xf7, 0xf8, 0xfb, 0xfc, 0xfe, 0xff}

var follows = []int{0x00, 0x41, 0x7f, 0x80, 0x81, 0x8f, 0x90, 0x9f, 0xa0, 0xa1, 0xbe, 0xbf, 0xc0, 0xc2, 0xe0, 0xf0, 0xff}

// rule: ordinary numbers from a fixed rule.
type rule uint64

func (r *rule) below(n int) int {
	*r = *r*6364136223846793005 + 1442695040888963407
	return int((uint64(*r) >> 33) % uint64(n))
}

func (r *rule) character() int {
	for {
		c := r.below([]int{128, 2048, 65536, 1114112}[r.below(4)])
		if character(c) {
			return c
		}
	}
}

// good: texts that are UTF-8.
func good() []string {
	list := []string{"", "a", "plain", "\x00", "{\"a\": [1, \"é\"]}"}
	for _, c := range edges {
		list = append(list, form(c), forms(97, c), forms(c, 97), forms(c, c))
	}
	r := rule(5)
	for n := range 60 {
		var s string
		for range n {
			s += form(r.character())
		}
		list = append(list, s)
	}
	return list
}

// broken: texts that are not: cut off, with a byte that can't follow, a form that is too long, a number that is no character, bytes by a rule.
func broken() []string {
	var list []string
	for _, c := range edges {
		f := form(c)
		for n := 1; n < len(f); n++ {
			list = append(list, f[:n])
			for _, x := range []string{"a", "\x7f", "\xc0", "\xc3", "\xe2", "\xf0", "\xff", f} {
				list = append(list, f[:n]+x, f[:n]+x+f[n:])
			}
		}
		for n := len(f) + 1; n <= 4; n++ {
			list = append(list, formOf(c, n))
		}
	}
	for _, c := range strangers {
		list = append(list, form(c))
	}
	r := rule(7)
	for len(list) < 3000 {
		s := forms(r.character(), r.character(), r.character())
		at := r.below(len(s))
		list = append(list, s[:at]+row(firsts[r.below(len(firsts))])+s[at+1:], s[:at]+s[at+1:])
	}
	return slices.DeleteFunc(list, library.ValidString)
}

// texts: both, and those that are not UTF-8 behind whole forms and ahead of them.
func texts() []string {
	list := good()
	for i, s := range broken() {
		list = append(list, s, forms(edges[i%len(edges)], 97)+s, s+forms(edges[i%len(edges)], 97))
	}
	return list
}

// P5.1

func TestBadExamples(t *testing.T) {
	for s, want := range map[string]int{
		"": -1, "a": -1, "\xc3\xa9": -1, "\xf4\x8f\xbf\xbf": -1,
		"\xc3": 1, "\x61\xe2\x82": 3, "\x80": 0, "\xc0\x80": 0, "\xc1": 0, "\xe0\x80": 1, "\xed\xa0\x80": 1, "\xf0\x8f": 1, "\xf4\x90": 1, "\xf5": 0, "\xe2\x82\x41": 2, "\xc3\xa9\xff": 2,
	} {
		if got := Bad(s); got != want {
			t.Errorf("Bad(% x): %d, not %d", s, got, want)
		}
	}
}

func TestBadOfEveryCharacter(t *testing.T) {
	for c := range 1114112 {
		if !character(c) {
			continue
		}
		f := form(c)
		if got := Bad(f); got != -1 {
			t.Fatalf("Bad of %d, % x: %d", c, f, got)
		}
		for n := 1; n < len(f); n++ {
			if got := Bad(f[:n]); got != n {
				t.Fatalf("Bad of %d cut off, % x: %d", c, f[:n], got)
			}
		}
	}
}

func TestBadOfWhatIsNoCharacter(t *testing.T) {
	for c := 55296; c <= 57343; c++ {
		if got := Bad(form(c)); got != 1 {
			t.Fatalf("Bad of %d, % x: %d", c, form(c), got)
		}
	}
	for c := 1114112; c < 2097152; c++ {
		want := 1
		if c >= 1310720 {
			want = 0
		}
		if got := Bad(form(c)); got != want {
			t.Fatalf("Bad of %d, % x: %d", c, form(c), got)
		}
	}
}

func TestBadOfFormsThatAreTooLong(t *testing.T) {
	for c := range 65536 {
		for n := len(form(c)) + 1; n <= 4; n++ {
			want := 1
			if n == 2 {
				want = 0
			}
			if got := Bad(formOf(c, n)); got != want {
				t.Fatalf("Bad of %d, % x: %d, not %d", c, formOf(c, n), got, want)
			}
		}
	}
}

func TestBadOfOneByte(t *testing.T) {
	for x := range 256 {
		want := 0
		switch {
		case x < 0x80:
			want = -1
		case x >= 0xc2 && x <= 0xf4:
			want = 1
		}
		if got := Bad(row(x)); got != want {
			t.Errorf("Bad(%x): %d, not %d", x, got, want)
		}
	}
}

func TestBadOfTheSecondByte(t *testing.T) {
	bounds := map[int][2]int{0xe0: {0xa0, 0xbf}, 0xed: {0x80, 0x9f}, 0xf0: {0x90, 0xbf}, 0xf4: {0x80, 0x8f}}
	for x := 0xc2; x <= 0xf4; x++ {
		lo, hi := 0x80, 0xbf
		if b, ok := bounds[x]; ok {
			lo, hi = b[0], b[1]
		}
		for y := range 256 {
			want := 1
			if y >= lo && y <= hi {
				want = 2
				if x < 0xe0 {
					want = -1
				}
			}
			if got := Bad(row(x, y)); got != want {
				t.Errorf("Bad(%x %x): %d, not %d", x, y, got, want)
			}
		}
	}
}

// A byte at the third and the fourth place is bound by no first one, whichever it was.
func TestBadOfTheThirdAndTheFourthByte(t *testing.T) {
	for x := 0xe0; x <= 0xf4; x++ {
		y := map[int]int{0xe0: 0xa0, 0xf0: 0x90}[x]
		if y == 0 {
			y = 0x80
		}
		for z := range 256 {
			fits := z >= 0x80 && z <= 0xbf
			want := 2
			switch {
			case fits && x >= 0xf0:
				want = 3
			case fits:
				want = -1
			}
			if got := Bad(row(x, y, z)); got != want {
				t.Errorf("Bad(%x %x %x): %d, not %d", x, y, z, got, want)
			}
			if x < 0xf0 {
				continue
			}
			for _, third := range []int{0x80, 0x8f, 0x90, 0xbf} {
				want = 3
				if fits {
					want = -1
				}
				if got := Bad(row(x, y, third, z)); got != want {
					t.Errorf("Bad(%x %x %x %x): %d, not %d", x, y, third, z, got, want)
				}
			}
		}
	}
}

func TestBadOfAllTwoBytes(t *testing.T) {
	for x := range 256 {
		for y := range 256 {
			s := row(x, y)
			if _, want := plain(s); Bad(s) != want {
				t.Errorf("Bad(% x): %d, not %d", s, Bad(s), want)
			}
		}
	}
}

func TestBadOfThreeToFiveBytes(t *testing.T) {
	for _, x := range firsts {
		for _, a := range follows {
			for _, b := range follows {
				for _, c := range follows {
					for _, s := range []string{row(x, a, b), row(x, a, b, c), row(x, a, b, c, x)} {
						if _, want := plain(s); Bad(s) != want {
							t.Fatalf("Bad(% x): %d, not %d", s, Bad(s), want)
						}
					}
				}
			}
		}
	}
}

func TestBadOfTexts(t *testing.T) {
	for _, s := range good() {
		if got := Bad(s); got != -1 {
			t.Errorf("Bad(% x): %d", s, got)
		}
	}
	for _, s := range texts() {
		_, want := plain(s)
		if got := Bad(s); got != want || (got == -1) != library.ValidString(s) {
			t.Errorf("Bad(% x): %d, not %d", s, got, want)
		}
	}
}

// What Bad tells is the greatest: up to there it is a beginning, and one byte more is none.
func TestBadIsTheGreatest(t *testing.T) {
	for _, s := range broken() {
		k := Bad(s)
		if k < 0 || k > len(s) || !beginning(s[:k]) || k < len(s) && beginning(s[:k+1]) {
			t.Errorf("Bad(% x): %d", s, k)
		}
	}
}

func TestBadBehindWholeForms(t *testing.T) {
	for _, ahead := range good() {
		for x, want := range map[string]int{"\xff": 0, "\x80": 0, "\xc0\x80": 0, "\xe2": 1, "\xe2\x82": 2, "\xe2\x82A": 2, "\xed\xa0\x80": 1, "\xf0\x9f\x98": 3, "\xf0\x9f\x98\xf0": 3, "\xf4\x90\x80\x80": 1} {
			if got := Bad(ahead + x); got != len(ahead)+want {
				t.Errorf("Bad(% x): %d, not %d", ahead+x, got, len(ahead)+want)
			}
		}
	}
}

// The first fault is told, not a later one.
func TestBadOfSeveralFaults(t *testing.T) {
	for s, want := range map[string]int{"\xff\xff": 0, "a\xffb\xff": 1, "\xe2\x41\xe2": 1, "\x80\xc3\xa9": 0, "\xc3\xc3\xa9": 1, "\xf0\x9f\xff\x80": 2} {
		if got := Bad(s); got != want {
			t.Errorf("Bad(% x): %d, not %d", s, got, want)
		}
	}
}

func TestBadOfALongText(t *testing.T) {
	s := strings.Repeat(forms(edges...), 5000)
	if got := Bad(s); got != -1 {
		t.Errorf("the whole: %d", got)
	}
	if got := Bad(s + "\xe2\x82"); got != len(s)+2 {
		t.Errorf("cut off: %d, not %d", got, len(s)+2)
	}
	if got := Bad(s + "\xc0" + s); got != len(s) {
		t.Errorf("a fault in the middle: %d, not %d", got, len(s))
	}
}

// P5.2

func TestScanExample(t *testing.T) {
	c := New()
	for i, x := range []struct {
		s    string
		want bool
		end  int
	}{{"\xe2", true, 1}, {"\x82", true, 2}, {"", true, 2}, {"\xac\x61", true, -1}, {"\xff\x61", false, 4}, {"a", false, 4}} {
		if got := c.Feed(x.s); got != x.want {
			t.Errorf("%d: Feed(% x): %v", i, x.s, got)
		}
		if got := c.End(); got != x.end {
			t.Errorf("%d: End: %d, not %d", i, got, x.end)
		}
	}
}

func TestScanOfNothing(t *testing.T) {
	c := New()
	for range 3 {
		if got := c.End(); got != -1 {
			t.Errorf("End: %d", got)
		}
		if !c.Feed("") {
			t.Error("Feed of nothing: false")
		}
	}
	if !c.Feed("a") || c.End() != -1 {
		t.Errorf("a behind nothing: End %d", c.End())
	}
}

func TestScanOfOnePiece(t *testing.T) {
	for _, s := range texts() {
		c := New()
		if got := c.Feed(s); got != beginning(s) {
			t.Errorf("Feed(% x): %v", s, got)
		}
		if got, want := c.End(), Bad(s); got != want {
			t.Errorf("End of % x: %d, not %d", s, got, want)
		}
	}
}

func TestScanByteByByte(t *testing.T) {
	for _, s := range texts() {
		c := New()
		for i := range len(s) {
			_, want := plain(s[:i+1])
			if got := c.Feed(s[i : i+1]); got != beginning(s[:i+1]) {
				t.Fatalf("% x up to %d: %v", s, i+1, got)
			}
			if got := c.End(); got != want {
				t.Fatalf("% x up to %d: End %d, not %d", s, i+1, got, want)
			}
		}
	}
}

// A fault, once it has come, is not mended by whatever comes: not by nothing, not by what the form had lacked.
func TestScanBehindAFault(t *testing.T) {
	for _, ahead := range broken() {
		_, want := plain(ahead)
		if want == len(ahead) {
			continue
		}
		c := New()
		c.Feed(ahead)
		for _, s := range []string{"", "a", "\x80", "\x82\xac", "\xac", "\xe2\x82\xac", "\xf0\x9f", "\xff", strings.Repeat("a", 100), ""} {
			if c.Feed(s) {
				t.Errorf("% x, and % x behind it: true", ahead, s)
			}
			if got := c.End(); got != want {
				t.Errorf("% x, and % x behind it: End %d, not %d", ahead, s, got, want)
			}
		}
	}
}

// A text that is cut off is no fault yet: what comes may still end the form.
func TestScanGoesOnBehindEnd(t *testing.T) {
	for _, ch := range edges {
		f := form(ch)
		for n := 1; n < len(f); n++ {
			c := New()
			if !c.Feed("a"+f[:n]) || c.End() != n+1 || !c.Feed("") || c.End() != n+1 {
				t.Errorf("%d cut off behind %d: End %d", ch, n, c.End())
			}
			if !c.Feed(f[n:]) || c.End() != -1 {
				t.Errorf("%d put together behind %d: End %d", ch, n, c.End())
			}
		}
	}
}

func TestEndChangesNothing(t *testing.T) {
	for _, s := range texts() {
		asked, left := New(), New()
		for i := range len(s) {
			asked.End()
			if asked.Feed(s[i:i+1]) != left.Feed(s[i:i+1]) {
				t.Fatalf("% x at %d: what Feed says hangs on End", s, i)
			}
			if first, again := asked.End(), asked.End(); first != again {
				t.Fatalf("% x at %d: End %d, then %d", s, i, first, again)
			}
		}
		if asked.End() != left.End() {
			t.Fatalf("% x: End %d, not %d", s, asked.End(), left.End())
		}
	}
}

func TestScansSideBySide(t *testing.T) {
	list := texts()
	for i, s := range list {
		other := list[(i*7+3)%len(list)]
		c, d := New(), New()
		for k := range max(len(s), len(other)) {
			if k < len(s) {
				c.Feed(s[k : k+1])
			}
			if k < len(other) {
				d.Feed(other[k : k+1])
			}
		}
		if c.End() != Bad(s) || d.End() != Bad(other) {
			t.Errorf("% x beside % x: %d and %d", s, other, c.End(), d.End())
		}
	}
	if New() == New() {
		t.Error("two Scans are one")
	}
}

func TestScansAtOneTime(t *testing.T) {
	list := texts()
	var group sync.WaitGroup
	for i := range 8 {
		group.Go(func() {
			for k := i; k < len(list); k += 8 {
				c := New()
				for b := range len(list[k]) {
					c.Feed(list[k][b : b+1])
				}
				if c.End() != Bad(list[k]) {
					t.Errorf("% x: %d", list[k], c.End())
				}
			}
		})
	}
	group.Wait()
}

// P5.3

func told(seq iter.Seq2[int, rune]) []pair {
	var list []pair
	for at, r := range seq {
		list = append(list, pair{at, r})
	}
	return list
}

func TestRunesExamples(t *testing.T) {
	if got := told(Runes("\x61\xc3\xa9\xf0\x9f\x98\x80\xc3")); !slices.Equal(got, []pair{{0, 97}, {1, 233}, {3, 128512}}) {
		t.Errorf("%v", got)
	}
	for _, s := range []string{"", "\xff"} {
		if got := told(Runes(s)); len(got) != 0 {
			t.Errorf("Runes(% x): %v", s, got)
		}
	}
}

func TestRunesOfEveryCharacter(t *testing.T) {
	for c := range 1114112 {
		if !character(c) {
			continue
		}
		f := form(c)
		if got := told(Runes(f + f)); !slices.Equal(got, []pair{{0, rune(c)}, {len(f), rune(c)}}) {
			t.Fatalf("Runes of %d, twice: %v", c, got)
		}
	}
}

func TestRunesOfWhatIsNoCharacter(t *testing.T) {
	for _, c := range strangers {
		if got := told(Runes("a" + form(c) + "b")); !slices.Equal(got, []pair{{0, 97}}) {
			t.Errorf("Runes of %d: %v", c, got)
		}
	}
	for _, c := range edges {
		for n := len(form(c)) + 1; n <= 4; n++ {
			if got := told(Runes("a" + formOf(c, n) + "b")); !slices.Equal(got, []pair{{0, 97}}) {
				t.Errorf("Runes of % x: %v", formOf(c, n), got)
			}
		}
	}
}

// They end ahead of a form that isn't whole, and nothing behind a fault is told.
func TestRunesOfTexts(t *testing.T) {
	for _, s := range texts() {
		want, _ := plain(s)
		if got := told(Runes(s)); !slices.Equal(got, want) {
			t.Fatalf("Runes(% x): %v, not %v", s, got, want)
		}
	}
}

// mixed has forms of each length, and is cut off at its end.
func mixed() (string, []pair) {
	return "a\xc3\xa9\xe2\x82\xac\xf0\x9f\x98\x80z\xf0\x9f", []pair{{0, 97}, {1, 233}, {3, 8364}, {6, 128512}, {10, 122}}
}

func TestRunesLeftEarlyAndBegunAgain(t *testing.T) {
	s, want := mixed()
	seq := Runes(s)
	for stop := range want {
		var got []pair
		for at, r := range seq {
			got = append(got, pair{at, r})
			if len(got) == stop+1 {
				break
			}
		}
		if !slices.Equal(got, want[:stop+1]) {
			t.Errorf("left behind %d: %v", stop+1, got)
		}
		if again := told(seq); !slices.Equal(again, want) {
			t.Errorf("begun again behind %d: %v", stop+1, again)
		}
	}
}

func TestRunesWithinThemselves(t *testing.T) {
	s, want := mixed()
	seq := Runes(s)
	var outer []pair
	for at, r := range seq {
		if inner := told(seq); !slices.Equal(inner, want) {
			t.Errorf("within the round at %d: %v", at, inner)
		}
		for range seq {
			break
		}
		outer = append(outer, pair{at, r})
	}
	if !slices.Equal(outer, want) {
		t.Errorf("around: %v", outer)
	}
}

func TestRunesTwoRoundsInTurn(t *testing.T) {
	s, want := mixed()
	seq := Runes(s)
	next, stop := iter.Pull2(seq)
	defer stop()
	other, end := iter.Pull2(seq)
	defer end()
	other()
	for i := range len(want) - 1 {
		at, r, ok := next()
		ahead, l, more := other()
		if !ok || !more || (pair{at, r}) != want[i] || (pair{ahead, l}) != want[i+1] {
			t.Errorf("in turn: %d %d %v, %d %d %v", at, r, ok, ahead, l, more)
		}
	}
	if _, _, more := other(); more {
		t.Error("more than there is")
	}
}

// P5.4

func TestSizeExamples(t *testing.T) {
	for r, want := range map[rune]int{0: 1, 127: 1, 128: 2, 2047: 2, 2048: 3, 55295: 3, 57344: 3, 65535: 3, 65536: 4, 1114111: 4, 55296: 0, 57343: 0, 1114112: 0, -1: 0} {
		if got := Size(r); got != want {
			t.Errorf("Size(%d): %d, not %d", r, got, want)
		}
	}
}

func TestSizeOfEveryCharacter(t *testing.T) {
	for c := range 1114112 {
		want := 0
		if character(c) {
			want = len(form(c))
		}
		if got := Size(rune(c)); got != want {
			t.Fatalf("Size(%d): %d, not %d", c, got, want)
		}
	}
}

func TestSizeOfWhatIsNoCharacter(t *testing.T) {
	for _, r := range []rune{math.MinInt32, math.MinInt32 + 1, -1114112, -65536, -55296, -2048, -128, -127, -2, -1, 55296, 56319, 56320, 57343, 1114112, 1114113, 1310720, 2097151, 2097152, math.MaxInt32 - 1, math.MaxInt32} {
		if got := Size(r); got != 0 {
			t.Errorf("Size(%d): %d", r, got)
		}
	}
}

// P5.5

func TestTwoTextsOneBehindTheOther(t *testing.T) {
	list := good()
	for _, a := range list {
		for _, b := range list {
			if got := Bad(a + b); got != -1 {
				t.Errorf("Bad(% x): %d", a+b, got)
			}
		}
		for _, b := range broken()[:200] {
			if got, want := Bad(a+b), len(a)+Bad(b); got != want {
				t.Errorf("Bad(% x): %d, not %d", a+b, got, want)
			}
		}
	}
}

func TestRunesAndSizesMakeTheText(t *testing.T) {
	for _, s := range good() {
		sum := 0
		var back string
		for at, r := range Runes(s) {
			if at != sum {
				t.Errorf("% x: %d begins at %d, not at %d", s, r, at, sum)
			}
			sum += Size(r)
			back += form(int(r))
		}
		if sum != len(s) || back != s {
			t.Errorf("% x: %d bytes, % x", s, sum, back)
		}
	}
}

// However a text is cut: at any two places, so into three pieces, any of them empty.
func TestAnyCuts(t *testing.T) {
	for _, s := range texts() {
		if len(s) > 24 {
			continue
		}
		want := Bad(s)
		for i := range len(s) + 1 {
			for k := i; k <= len(s); k++ {
				c := New()
				said := []bool{c.Feed(s[:i]), c.Feed(s[i:k]), c.Feed(s[k:])}
				if !slices.Equal(said, []bool{beginning(s[:i]), beginning(s[:k]), beginning(s)}) || c.End() != want {
					t.Fatalf("% x cut at %d and %d: %v, %d, not %d", s, i, k, said, c.End(), want)
				}
			}
		}
	}
}

func TestPiecesOfEverySize(t *testing.T) {
	long := strings.Repeat(forms(edges...), 3)
	for _, s := range []string{long, long + "\xf0\x9f\x98", long + "\xff" + long, "\xe2\x82" + long} {
		for size := 1; size <= len(s); size++ {
			c := New()
			for at := 0; at < len(s); at += size {
				to := min(at+size, len(s))
				if c.Feed(s[at:to]) != (Bad(s[:to]) == -1 || Bad(s[:to]) == to) {
					t.Fatalf("pieces of %d: what Feed says at %d", size, at)
				}
			}
			if c.End() != Bad(s) {
				t.Fatalf("pieces of %d: End %d, not %d", size, c.End(), Bad(s))
			}
		}
	}
}

func ExampleScan() {
	c := New()
	fmt.Println(c.Feed("caf\xc3"), c.End())
	fmt.Println(c.Feed("\xa9"), c.End())
	fmt.Println(c.Feed("\xff"), c.End())
	// Output:
	// true 4
	// true -1
	// false 5
}

func ExampleRunes() {
	for at, r := range Runes("a\xc3\xa9\xe2\x82\xac\xff!") {
		fmt.Print(at, ":", r, " ")
	}
	fmt.Println()
	// Output:
	// 0:97 1:233 3:8364
}
