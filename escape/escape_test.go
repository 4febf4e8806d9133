package escape

import (
	"fmt"
	"math"
	"slices"
	"strings"
	"sync"
	"testing"

	"quarry/api"
	"quarry/bitmap"
)

var lens = []int{0, 1, 2, 3, 62, 63, 64, 65, 66, 126, 127, 128, 129, 130, 191, 192, 193, 256}

// plain: the chapter's words, byte by byte: of each byte of a piece, and of the one that would come next, whether it is escaped.
func plain(s string, first bool) []bool {
	list := []bool{first}
	for i := 1; i <= len(s); i++ {
		list = append(list, s[i-1] == 92 && !list[i-1])
	}
	return list
}

// row: the row of bits that has so many bits and no more, by doubling alone, so that a wrong shift can't agree with itself.
func row(list []bool) api.Bits {
	b := api.Bits{Len: len(list)}
	for i, is := range list {
		if i%64 == 0 {
			b.Words = append(b.Words, 0)
		}
		if is {
			var worth uint64 = 1
			for range i % 64 {
				worth *= 2
			}
			b.Words[i/64] += worth
		}
	}
	return b
}

// wanted: what Escaped of a text must be.
func wanted(s string) api.Bits { return row(plain(s, false)[:len(s)]) }

func same(a, b api.Bits) bool { return a.Len == b.Len && slices.Equal(a.Words, b.Words) }

// odd: the places from at down, one by one, for as long as all behind them are backslashes.
func odd(s string, at int) (int, bool) {
	if at < 0 || at > len(s) {
		return 0, false
	}
	from := at
	for k := at; k >= 0 && s[k:at] == strings.Repeat("\\", at-k); k-- {
		from = k
	}
	return from, (at-from)%2 != 0
}

// rule: ordinary numbers from a fixed rule.
type rule uint64

func (r *rule) below(n int) int {
	*r = *r*6364136223846793005 + 1442695040888963407
	return int((uint64(*r) ^ uint64(*r)>>29) % uint64(n))
}

// others: bytes that are no backslash, those beside it and one that differs in the highest bit alone among them.
const others = "abn\"/u{}[]:,0 \n\x00\x5b\x5d\x7f\x80\xdc\xff"

// mixed: n bytes, of ten so many backslashes.
func (r *rule) mixed(n, of int) string {
	var b strings.Builder
	for range n {
		if r.below(10) < of {
			b.WriteByte('\\')
			continue
		}
		b.WriteByte(others[r.below(len(others))])
	}
	return b.String()
}

func slashes(n int) string { return strings.Repeat("\\", n) }

// held: a row of n backslashes from a place on, in a text of so many bytes; fill is all else.
func held(length, at, n int, fill byte) string {
	b := []byte(strings.Repeat(string([]byte{fill}), length))
	for i := range n {
		b[at+i] = '\\'
	}
	return string(b)
}

// rows: rows of backslashes, odd and even in number, that end at, begin at and lie over the ends of words, with others behind and with none.
func rows() []string {
	var list []string
	for _, edge := range []int{0, 1, 62, 63, 64, 65, 126, 127, 128, 129} {
		for _, n := range []int{1, 2, 3, 4, 5, 6, 7, 62, 63, 64, 65, 66, 127, 128, 129, 130} {
			for _, at := range []int{edge, edge - 1, edge - 2, edge - 3, edge - n/2, edge - n - 1, edge - n, edge - n + 1} {
				if at < 0 {
					continue
				}
				for _, more := range []int{0, 1, 2, 63, 64, 65} {
					list = append(list, held(at+n+more, at, n, 'a'))
				}
				list = append(list, held(at+n+1, at, n, '"'), held(at+n+3, at, n, 0xff), held(at+n+2, at, n, 0))
			}
		}
	}
	return list
}

// texts: the empty one; without a backslash, of them alone, with one here and there; rows at the ends of words; mixed ones, thin and thick.
func texts() []string {
	list := []string{"", "\\", "a", "\\\\", "\\a", "a\\", "\\\"", "{\"a\\\\\\\"b\": \"\\u005c\\n\"}", "\\\x00", "\x80\\\xff\\\\\xdc\\"}
	for _, n := range lens {
		list = append(list, strings.Repeat("a", n), strings.Repeat("\xdc", n), strings.Repeat("\x00", n), slashes(n), slashes(n)+"a", "a"+slashes(n), "a"+slashes(n)+"bc")
		list = append(list, strings.Repeat("\\a", n), strings.Repeat("a\\\\", n), strings.Repeat("\\\\\\\"", n))
		for _, at := range []int{0, 1, 62, 63, 64, 65, 127, 128, n / 2, n - 2, n - 1} {
			if at >= 0 && at < n {
				list = append(list, held(n, at, 1, 'a'), held(n, at, n-at, '\xfe'), slashes(at)+"n"+slashes(n-at-1))
			}
		}
		r := rule(n)
		for _, of := range []int{0, 1, 3, 5, 8, 9} {
			list = append(list, r.mixed(n, of), r.mixed(n, of))
		}
	}
	return append(list, rows()...)
}

// short: every text of at most n bytes that are a backslash or an a.
func short(n int) []string {
	list := []string{""}
	for i := 0; len(list[i]) < n; i++ {
		list = append(list, list[i]+"\\", list[i]+"a")
	}
	return list
}

// P6.1

func TestEscapedExamples(t *testing.T) {
	for _, x := range []struct {
		s    string
		want []int
	}{
		{`\\a`, []int{1}},
		{`\a\\n`, []int{1, 3}},
		{`\\\`, []int{1}},
		{``, nil},
	} {
		b := Escaped(x.s)
		if b.Len != len(x.s) || !slices.Equal(slices.Collect(bitmap.Each(b)), x.want) {
			t.Errorf("Escaped(%s): %v", x.s, b)
		}
	}
}

func TestEscapedOfTexts(t *testing.T) {
	for _, s := range texts() {
		if got, want := Escaped(s), wanted(s); !same(got, want) {
			t.Fatalf("Escaped(%q): %x, not %x", s, got, want)
		}
	}
}

func TestEscapedOfShortTexts(t *testing.T) {
	for _, s := range short(12) {
		// Ahead of it what leaves it as it is, so that it lies over the ends of words as well.
		for _, n := range []int{0, 58, 122} {
			s := strings.Repeat("b", n) + s
			if got, want := Escaped(s), wanted(s); !same(got, want) {
				t.Fatalf("Escaped(%q): %x, not %x", s, got, want)
			}
		}
	}
}

func TestEscapedAnswersAFormedRow(t *testing.T) {
	for _, s := range texts() {
		b := Escaped(s)
		if !bitmap.Formed(b) || b.Len != len(s) || len(b.Words) != (len(s)+63)/64 {
			t.Fatalf("Escaped(%q): %x", s, b)
		}
	}
}

// A backslash at the end escapes a byte that isn't there: of each length no bit is set behind it.
func TestEscapedOfATextThatEndsOnABackslash(t *testing.T) {
	for n := 1; n <= 200; n++ {
		for _, more := range []int{1, 2, 3, 64, 65} {
			if more > n {
				continue
			}
			s := held(n, n-more, more, 'a')
			if b := Escaped(s); !bitmap.Formed(b) || !same(b, wanted(s)) {
				t.Fatalf("Escaped of %d bytes, %d backslashes last: %x", n, more, b)
			}
		}
	}
}

func TestEscapedOfEveryByte(t *testing.T) {
	for x := range 256 {
		one := string([]byte{byte(x)})
		for _, s := range []string{one, one + "n", "\\" + one, "\\" + one + "n", "\\\\" + one + "n", strings.Repeat("a", 63) + one + "n", strings.Repeat("a", 62) + "\\" + one + "n", strings.Repeat(one, 130)} {
			if got, want := Escaped(s), wanted(s); !same(got, want) {
				t.Fatalf("Escaped(%q): %x, not %x", s, got, want)
			}
		}
	}
}

func TestEscapedOfNoBackslash(t *testing.T) {
	for _, n := range lens {
		for x := range 256 {
			if x == 92 {
				continue
			}
			b := Escaped(strings.Repeat(string([]byte{byte(x)}), n))
			if b.Len != n || bitmap.Next(b, 0) != -1 {
				t.Fatalf("%d bytes %d: %x", n, x, b)
			}
		}
	}
}

func TestEscapedOfBackslashesAlone(t *testing.T) {
	for n := range 260 {
		b := Escaped(slashes(n))
		for i := range n {
			if bitmap.Get(b, i) != (i%2 == 1) {
				t.Fatalf("%d backslashes: the bit %d", n, i)
			}
		}
	}
}

// What is carried over the end of a word goes no further than the first byte of the next one.
func TestEscapedOverTheEndOfAWord(t *testing.T) {
	for _, end := range []int{64, 128, 192} {
		for n := range end + 1 {
			s := strings.Repeat("a", end-n) + slashes(n) + strings.Repeat("b", 140)
			b := Escaped(s)
			if got := bitmap.Get(b, end); got != (n%2 == 1) {
				t.Fatalf("%d backslashes ahead of %d: %v", n, end, got)
			}
			if at := bitmap.Next(b, end+1); at != -1 {
				t.Fatalf("%d backslashes ahead of %d: %d is escaped", n, end, at)
			}
		}
	}
}

// A row that is made has at most MaxBits bits; of a text no such bound is told.
func TestEscapedOfALongText(t *testing.T) {
	n := api.MaxBits + 65
	b := []byte(strings.Repeat("a", n))
	var want []int
	for _, at := range []int{5, 63, 4000, api.MaxBits - 1, api.MaxBits + 2, api.MaxBits + 63} {
		b[at] = '\\'
		want = append(want, at+1)
	}
	// The last byte is escaped itself.
	b[n-1] = '\\'
	got := Escaped(string(b))
	if got.Len != n || !bitmap.Formed(got) || !slices.Equal(slices.Collect(bitmap.Each(got)), want) {
		t.Errorf("%d bits, %v, not %v", got.Len, slices.Collect(bitmap.Each(got)), want)
	}
}

// P6.2

func TestBehindExamples(t *testing.T) {
	for _, x := range []struct {
		s           string
		first, want bool
	}{
		{`\`, false, true},
		{`\`, true, false},
		{`a`, true, false},
		{``, true, true},
		{`\\\`, false, true},
	} {
		if got := Behind(x.s, x.first); got != x.want {
			t.Errorf("Behind(%s, %v): %v", x.s, x.first, got)
		}
	}
}

func TestBehindOfTheEmptyText(t *testing.T) {
	if Behind("", false) || !Behind("", true) {
		t.Error("of the empty text it is first")
	}
}

func TestBehindOfTexts(t *testing.T) {
	for _, s := range append(texts(), short(12)...) {
		for _, first := range []bool{false, true} {
			if got, want := Behind(s, first), plain(s, first)[len(s)]; got != want {
				t.Fatalf("Behind(%q, %v): %v", s, first, got)
			}
		}
	}
}

func TestBehindOfBackslashesAlone(t *testing.T) {
	for n := range 260 {
		if Behind(slashes(n), false) != (n%2 == 1) || Behind(slashes(n), true) != (n%2 == 0) {
			t.Fatalf("%d backslashes", n)
		}
	}
}

// One byte that is no backslash, at any place, and first counts no more.
func TestBehindOfAPieceWithAnotherByte(t *testing.T) {
	for n := 1; n <= 140; n++ {
		for _, at := range []int{0, 1, 63, 64, n / 2, n - 2, n - 1} {
			if at < 0 || at >= n {
				continue
			}
			s := slashes(at) + "a" + slashes(n-at-1)
			want := (n-at-1)%2 == 1
			if Behind(s, false) != want || Behind(s, true) != want {
				t.Fatalf("the a at %d of %d", at, n)
			}
		}
	}
}

func TestBehindOfEveryByte(t *testing.T) {
	for x := range 256 {
		s := string([]byte{byte(x)})
		if Behind(s, false) != (x == 92) || Behind(s, true) {
			t.Errorf("the byte %d", x)
		}
		if Behind("\\"+s, true) != (x == 92) || Behind("\\"+s, false) {
			t.Errorf("the byte %d behind a backslash", x)
		}
	}
}

func TestBehindOfALongText(t *testing.T) {
	s := strings.Repeat("a\\", 1<<20)
	if !Behind(s, false) || !Behind(s, true) || Behind(s+"\\", false) || Behind(s+"a", true) {
		t.Error("of 2^21 bytes")
	}
	all := slashes(1<<20 + 1)
	if !Behind(all, false) || Behind(all, true) {
		t.Error("of 2^20 + 1 backslashes")
	}
}

// P6.3

func TestOddExamples(t *testing.T) {
	for _, x := range []struct {
		s        string
		at, from int
		odd      bool
	}{
		{`a\\\b`, 4, 1, true},
		{`a\\\b`, 3, 1, false},
		{`a\\\b`, 1, 1, false},
		{`a\\\b`, 5, 5, false},
		{`a\\\b`, 6, 0, false},
		{`a`, -1, 0, false},
		{``, 0, 0, false},
	} {
		if from, odd := Odd(x.s, x.at); from != x.from || odd != x.odd {
			t.Errorf("Odd(%s, %d): %d, %v", x.s, x.at, from, odd)
		}
	}
}

func TestOddAtEveryPlace(t *testing.T) {
	list := short(10)
	for _, n := range lens {
		r := rule(n)
		list = append(list, slashes(n), strings.Repeat("a", n), r.mixed(n, 1), r.mixed(n, 5), r.mixed(n, 9), held(n+3, n/2, 3, 0xff))
	}
	for _, s := range list {
		for at := -3; at <= len(s)+3; at++ {
			from, is := Odd(s, at)
			wantFrom, wantIs := odd(s, at)
			if from != wantFrom || is != wantIs {
				t.Fatalf("Odd(%q, %d): %d, %v, not %d, %v", s, at, from, is, wantFrom, wantIs)
			}
		}
	}
}

func TestOddOutsideOfTheText(t *testing.T) {
	for _, s := range texts() {
		for _, at := range []int{math.MinInt, math.MinInt + 1, math.MinInt32, -65, -64, -2, -1, len(s) + 1, len(s) + 2, len(s) + 64, math.MaxInt32, math.MaxInt - 1, math.MaxInt} {
			if from, odd := Odd(s, at); from != 0 || odd {
				t.Fatalf("Odd(%q, %d): %d, %v", s, at, from, odd)
			}
		}
	}
}

// Right ahead of a row, at each place within it, right behind it, and one further.
func TestOddBesideARow(t *testing.T) {
	for _, first := range []int{0, 1, 5, 62, 63, 64, 65, 127, 128} {
		for _, n := range []int{1, 2, 3, 4, 63, 64, 65, 129} {
			s := held(first+n+2, first, n, 'a')
			for at := first; at <= first+n; at++ {
				if from, odd := Odd(s, at); from != first || odd != ((at-first)%2 == 1) {
					t.Fatalf("%d backslashes from %d on, at %d: %d, %v", n, first, at, from, odd)
				}
			}
			for at := range first {
				if from, odd := Odd(s, at); from != at || odd {
					t.Fatalf("%d backslashes from %d on, at %d: %d, %v", n, first, at, from, odd)
				}
			}
			for at := first + n + 1; at <= len(s); at++ {
				if from, odd := Odd(s, at); from != at || odd {
					t.Fatalf("%d backslashes from %d on, at %d: %d, %v", n, first, at, from, odd)
				}
			}
		}
	}
}

// Of two rows the one that ends at the place is told, not what is ahead of the byte between.
func TestOddOfTwoRows(t *testing.T) {
	for n := range 5 {
		for m := 1; m < 5; m++ {
			s := slashes(n) + "a" + slashes(m) + "b"
			if from, odd := Odd(s, n+1+m); from != n+1 || odd != (m%2 == 1) {
				t.Errorf("Odd(%s, %d): %d, %v", s, n+1+m, from, odd)
			}
		}
	}
}

func TestOddOfEveryByte(t *testing.T) {
	for x := range 256 {
		s := "a" + string([]byte{byte(x)}) + "b"
		from, odd := Odd(s, 2)
		if x == 92 && (from != 1 || !odd) || x != 92 && (from != 2 || odd) {
			t.Errorf("the byte %d: %d, %v", x, from, odd)
		}
	}
}

// P6.4

func TestEscapedIsWhatOddSays(t *testing.T) {
	for _, s := range texts() {
		b := Escaped(s)
		for i := range len(s) {
			if _, odd := Odd(s, i); bitmap.Get(b, i) != odd {
				t.Fatalf("%q, %d: Odd says %v", s, i, odd)
			}
		}
		if _, odd := Odd(s, len(s)); Behind(s, false) != odd {
			t.Fatalf("%q: Odd says %v of what would come next", s, odd)
		}
	}
}

func TestEscapedStandsBehindABackslashThatIsNot(t *testing.T) {
	for _, s := range texts() {
		b := Escaped(s)
		for i := range bitmap.Each(b) {
			if i == 0 || s[i-1] != '\\' || bitmap.Get(b, i-1) {
				t.Fatalf("%q, %d", s, i)
			}
			if bitmap.Get(b, i+1) {
				t.Fatalf("%q: %d and the one behind it", s, i)
			}
		}
	}
}

func TestBehindGoesOnFromPieceToPiece(t *testing.T) {
	for _, s := range texts() {
		if len(s) > 200 {
			continue
		}
		for _, first := range []bool{false, true} {
			whole := Behind(s, first)
			for cut := range len(s) + 1 {
				if got := Behind(s[cut:], Behind(s[:cut], first)); got != whole {
					t.Fatalf("%q, %v, cut at %d: %v", s, first, cut, got)
				}
			}
			carried := first
			for i := range len(s) {
				carried = Behind(s[i:i+1], carried)
			}
			if carried != whole {
				t.Fatalf("%q, %v, byte by byte: %v", s, first, carried)
			}
		}
	}
}

func TestBehindOfAnyPieces(t *testing.T) {
	r := rule(6)
	for n := range 400 {
		s := r.mixed(n, 3+n%7)
		carried := false
		for rest := s; rest != ""; {
			cut := 1 + r.below(len(rest))
			// Empty pieces between change nothing.
			carried = Behind("", Behind(rest[:cut], carried))
			rest = rest[cut:]
		}
		if carried != Behind(s, false) {
			t.Fatalf("%q: %v", s, carried)
		}
	}
}

func TestEscapedOfTwoPieces(t *testing.T) {
	for _, s := range texts() {
		if len(s) > 200 {
			continue
		}
		whole := Escaped(s)
		for cut := range len(s) + 1 {
			ahead := Escaped(s[:cut])
			for i := range cut {
				if bitmap.Get(whole, i) != bitmap.Get(ahead, i) {
					t.Fatalf("%q, cut at %d: the bit %d", s, cut, i)
				}
			}
			for i, is := range plain(s[cut:], Behind(s[:cut], false))[:len(s)-cut] {
				if bitmap.Get(whole, cut+i) != is {
					t.Fatalf("%q, cut at %d: the bit %d", s, cut, cut+i)
				}
			}
		}
	}
}

// Memory, Sameness

func TestAnswersLieApart(t *testing.T) {
	for _, s := range []string{"", "\\a", slashes(64), slashes(65) + "n", strings.Repeat("a", 200), strings.Repeat("\\n", 100)} {
		a := Escaped(s)
		b := Escaped(s)
		for i := range a.Words {
			a.Words[i] = ^a.Words[i]
		}
		room := a.Words[:cap(a.Words)]
		for i := len(a.Words); i < len(room); i++ {
			room[i] = math.MaxUint64
		}
		a.Words = append(a.Words, 7)
		if !same(b, wanted(s)) {
			t.Errorf("%q: the other one was written over", s)
		}
		if !same(Escaped(s), wanted(s)) {
			t.Errorf("%q: the next one was written over", s)
		}
	}
}

func TestTheSameWhateverElseRuns(t *testing.T) {
	list := texts()[:120]
	var all sync.WaitGroup
	for k := range 4 {
		all.Go(func() {
			for i := range list {
				s := list[(i*7+k)%len(list)]
				if !same(Escaped(s), wanted(s)) || Behind(s, true) != plain(s, true)[len(s)] {
					t.Errorf("%q", s)
				}
			}
		})
	}
	all.Wait()
}

func ExampleEscaped() {
	for at := range bitmap.Each(Escaped(`\a\\n`)) {
		fmt.Println(at)
	}
	// Output:
	// 1
	// 3
}

func ExampleBehind() {
	carried := false
	for _, piece := range []string{`say \`, `"hi\`, `\`, `"`} {
		fmt.Println(carried)
		carried = Behind(piece, carried)
	}
	// Output:
	// false
	// true
	// true
	// false
}

func ExampleOdd() {
	fmt.Println(Odd(`a\\\b`, 4))
	fmt.Println(Odd(`a\\\b`, 3))
	// Output:
	// 1 true
	// 1 false
}
