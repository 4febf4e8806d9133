package block

import (
	"fmt"
	"iter"
	"math"
	"strings"
	"testing"

	"quarry/api"
)

// in is the chapter's own word for what a class holds, by division alone, so that a wrong shift can't agree with itself.
func in(c api.Class, x int) bool {
	w := c.Words[x/64]
	for range x % 64 {
		w /= 2
	}
	return w%2 == 1
}

func worth(i int) uint64 {
	var w uint64 = 1
	for range i {
		w *= 2
	}
	return w
}

// bits: the word of just these bits.
func bits(places ...int) uint64 {
	var w uint64
	for _, i := range places {
		w += worth(i)
	}
	return w
}

func masked(b [64]byte, holds func(x byte) bool) uint64 {
	var w uint64
	for i := range 64 {
		if holds(b[i]) {
			w += worth(i)
		}
	}
	return w
}

// rule: ordinary numbers from a fixed rule.
type rule uint64

func (r *rule) next() uint64 {
	*r = *r*6364136223846793005 + 1442695040888963407
	return uint64(*r) ^ uint64(*r)>>29
}

func classes() []api.Class {
	full := api.Class{Words: [4]uint64{math.MaxUint64, math.MaxUint64, math.MaxUint64, math.MaxUint64}}
	list := []api.Class{{}, full}
	for _, x := range []int{0, 1, 31, 32, 34, 62, 63, 64, 65, 127, 128, 129, 191, 192, 254, 255} {
		var one api.Class
		one.Words[x/64] = worth(x % 64)
		but := full
		but.Words[x/64] -= worth(x % 64)
		list = append(list, one, but)
	}
	for i := range 4 {
		var c api.Class
		c.Words[i] = math.MaxUint64
		list = append(list, c)
	}
	r := rule(2)
	for range 8 {
		list = append(list, api.Class{Words: [4]uint64{r.next(), r.next(), r.next(), r.next()}})
	}
	return list
}

func blocks() [][64]byte {
	var list [][64]byte
	for from := 0; from < 256; from += 64 {
		var rising, falling [64]byte
		for i := range 64 {
			rising[i] = byte(from + i)
			falling[63-i] = byte(from + i)
		}
		list = append(list, rising, falling)
	}
	r := rule(3)
	for range 8 {
		var b [64]byte
		for i := range b {
			b[i] = byte(r.next())
		}
		list = append(list, b)
	}
	return append(list, [64]byte{}, [64]byte{0: 255, 7: 64, 8: 63, 31: 128, 32: 127, 63: 255})
}

// texts: the lengths at which a text's last block turns, of bytes that tell their places apart.
func texts() []string {
	var list []string
	for _, n := range []int{0, 1, 2, 7, 8, 11, 62, 63, 64, 65, 66, 127, 128, 129, 191, 192, 193, 400} {
		b := make([]byte, n)
		for i := range b {
			b[i] = byte(i*7 + i/64 + 1)
		}
		list = append(list, string(b))
	}
	return list
}

const example = `{"a":[1,2]}`

func exampleBlock() [64]byte {
	var b [64]byte
	for i := range b {
		b[i] = 32
		if i < len(example) {
			b[i] = example[i]
		}
	}
	return b
}

// P2.1

func TestOfExamples(t *testing.T) {
	for _, c := range []struct {
		text string
		want [4]uint64
	}{
		{"ab", [4]uint64{0, 1<<33 + 1<<34, 0, 0}},
		{"", [4]uint64{}},
		{"\xff", [4]uint64{0, 0, 0, 1 << 63}},
		{"\x00", [4]uint64{1, 0, 0, 0}},
		{"?", [4]uint64{1 << 63, 0, 0, 0}},
		{"@", [4]uint64{0, 1, 0, 0}},
		{"\x80\xbf\xc0", [4]uint64{0, 0, 1 + 1<<63, 1}},
		{"aaaaaaaa", [4]uint64{0, 1 << 33, 0, 0}},
		{"\u00e9", [4]uint64{0, 0, 1 << 41, 1 << 3}},
	} {
		if got := Of(c.text); got.Words != c.want {
			t.Errorf("Of(%q): %x, not %x", c.text, got.Words, c.want)
		}
	}
}

func TestOfTellsJustTheTextsBytes(t *testing.T) {
	list := texts()
	for x := range 256 {
		list = append(list, string([]byte{byte(x)}), string([]byte{byte(x), 0, byte(255 - x)}))
	}
	for _, s := range list {
		c := Of(s)
		for x := range 256 {
			if want := strings.IndexByte(s, byte(x)) >= 0; in(c, x) != want {
				t.Fatalf("Of(%q): the byte %d: %v, not %v", s, x, in(c, x), want)
			}
		}
	}
}

func TestHas(t *testing.T) {
	if !Has(Of("ab"), 'b') || Has(Of("ab"), 'c') || Has(Of(""), 0) {
		t.Error("Has of Of(ab), Of()")
	}
	for _, c := range classes() {
		for x := range 256 {
			if got := Has(c, byte(x)); got != in(c, x) {
				t.Fatalf("Has(%x, %d): %v", c.Words, x, got)
			}
		}
	}
}

// P2.2

func TestMinusAndNotExamples(t *testing.T) {
	if got := Minus(Of("ab"), Of("bc")); got != Of("a") {
		t.Errorf("Minus(ab, bc): %x", got.Words)
	}
	if got := Join(Of("ab"), Of("bc")); got != Of("abc") {
		t.Errorf("Join(ab, bc): %x", got.Words)
	}
	const all = math.MaxUint64
	if got := Not(Of("")); got.Words != [4]uint64{all, all, all, all} {
		t.Errorf("Not(): %x", got.Words)
	}
}

func TestJoinMinusNot(t *testing.T) {
	for _, c := range classes() {
		for _, d := range classes() {
			join, minus, not := Join(c, d), Minus(c, d), Not(c)
			for x := range 256 {
				if in(join, x) != (in(c, x) || in(d, x)) {
					t.Fatalf("Join(%x, %x): wrong at %d", c.Words, d.Words, x)
				}
				if in(minus, x) != (in(c, x) && !in(d, x)) {
					t.Fatalf("Minus(%x, %x): wrong at %d", c.Words, d.Words, x)
				}
				if in(not, x) == in(c, x) {
					t.Fatalf("Not(%x): wrong at %d", c.Words, x)
				}
			}
		}
	}
}

// P2.3

func TestMaskExamples(t *testing.T) {
	b := exampleBlock()
	for _, c := range []struct {
		class string
		want  uint64
	}{
		{"{}[]:,", bits(0, 4, 5, 7, 9, 10)},
		{"", 0},
		{"{", bits(0)},
		{"2}", bits(8, 10)},
	} {
		if got := Mask(b, Of(c.class)); got != c.want {
			t.Errorf("Mask(b, Of(%q)): %b, not %b", c.class, got, c.want)
		}
	}
	if got := Equal(b, '"'); got != bits(1, 3) {
		t.Errorf("Equal(b, quote): %b", got)
	}
	if got := Equal(b, ' '); got != math.MaxUint64-bits(0, 1, 2, 3, 4, 5, 6, 7, 8, 9, 10) {
		t.Errorf("Equal(b, blank): %b", got)
	}
	if got := Equal(b, 'z'); got != 0 {
		t.Errorf("Equal(b, z): %b", got)
	}
}

func TestMask(t *testing.T) {
	for _, b := range blocks() {
		for _, c := range classes() {
			want := masked(b, func(x byte) bool { return in(c, int(x)) })
			if got := Mask(b, c); got != want {
				t.Fatalf("Mask(%v, %x): %x, not %x", b, c.Words, got, want)
			}
		}
	}
}

func TestEqual(t *testing.T) {
	for _, b := range blocks() {
		for x := range 256 {
			want := masked(b, func(y byte) bool { return int(y) == x })
			if got := Equal(b, byte(x)); got != want {
				t.Fatalf("Equal(%v, %d): %x, not %x", b, x, got, want)
			}
		}
	}
	for i := range 64 {
		b := [64]byte{}
		b[i] = 255
		if got := Equal(b, 255); got != worth(i) {
			t.Errorf("255 at %d alone: %x", i, got)
		}
		if got := Equal(b, 0); got != math.MaxUint64-worth(i) {
			t.Errorf("0 but at %d: %x", i, got)
		}
	}
}

// P2.4

// cut is P2.4 word by word.
func cut(s string, at int, pad byte) ([64]byte, int) {
	var b [64]byte
	n := 0
	if at >= 0 && at < len(s) {
		for n < 64 && n < len(s)-at {
			n++
		}
	}
	for i := range b {
		if i < n {
			b[i] = s[at+i]
		} else {
			b[i] = pad
		}
	}
	return b, n
}

func TestCutExamples(t *testing.T) {
	sixtyFour := strings.Repeat("x", 64)
	for _, c := range []struct {
		text  string
		at    int
		pad   byte
		bytes string
	}{
		{example, 0, 32, example},
		{example, 9, '.', "]}"},
		{example, 10, 0, "}"},
		{example, 11, '.', ""},
		{example, 12, '.', ""},
		{example, -1, '.', ""},
		{example, -64, '.', ""},
		{example, math.MinInt64, '.', ""},
		{example, math.MaxInt64, '.', ""},
		{example, math.MaxInt64 - 63, '.', ""},
		{"", 0, 255, ""},
		{"", -1, 0, ""},
		{sixtyFour, 0, '.', sixtyFour},
		{sixtyFour, 1, '.', sixtyFour[1:]},
		{sixtyFour, 63, '.', "x"},
		{sixtyFour, 64, '.', ""},
		{sixtyFour + "y", 0, '.', sixtyFour},
		{sixtyFour + "y", 1, '.', sixtyFour[1:] + "y"},
	} {
		var want [64]byte
		for i := range want {
			want[i] = c.pad
		}
		copy(want[:], c.bytes)
		if b, n := Cut(c.text, c.at, c.pad); b != want || n != len(c.bytes) {
			t.Errorf("Cut(%q, %d, %d): %q %d, not %q %d", c.text, c.at, c.pad, b, n, want, len(c.bytes))
		}
	}
}

func TestCut(t *testing.T) {
	for _, s := range texts() {
		for at := -3; at < len(s)+70; at++ {
			for _, pad := range []byte{0, 32, 255} {
				want, m := cut(s, at, pad)
				if b, n := Cut(s, at, pad); b != want || n != m {
					t.Fatalf("Cut of %d bytes at %d: %v %d, not %v %d", len(s), at, b, n, want, m)
				}
			}
		}
	}
}

// P2.5

type part struct {
	at int
	b  [64]byte
}

func gather(seq iter.Seq2[int, [64]byte]) []part {
	var list []part
	for at, b := range seq {
		list = append(list, part{at, b})
	}
	return list
}

func wanted(s string, pad byte) []part {
	var list []part
	for at := 0; at < len(s); at += 64 {
		b, _ := cut(s, at, pad)
		list = append(list, part{at, b})
	}
	return list
}

func same(a, b []part) bool {
	if len(a) != len(b) {
		return false
	}
	for i := range a {
		if a[i] != b[i] {
			return false
		}
	}
	return true
}

func TestBlocksExamples(t *testing.T) {
	var full, last [64]byte
	for i := range full {
		full[i] = 'a'
	}
	last[0] = 'a'
	if got := gather(Blocks(strings.Repeat("a", 65), 0)); !same(got, []part{{0, full}, {64, last}}) {
		t.Errorf("Blocks of 65 bytes: %v", got)
	}
	if got := gather(Blocks(strings.Repeat("a", 64), 0)); !same(got, []part{{0, full}}) {
		t.Errorf("Blocks of 64 bytes: %v", got)
	}
	if got := gather(Blocks("", 0)); len(got) != 0 {
		t.Errorf("Blocks of nothing: %v", got)
	}
}

func TestBlocks(t *testing.T) {
	for _, s := range texts() {
		for _, pad := range []byte{0, 32, 255} {
			if got, want := gather(Blocks(s, pad)), wanted(s, pad); !same(got, want) {
				t.Errorf("Blocks of %d bytes: %v, not %v", len(s), got, want)
			}
		}
	}
}

func TestBlocksLeftEarlyAndBegunAgain(t *testing.T) {
	s := texts()[len(texts())-1]
	want := wanted(s, '.')
	seq := Blocks(s, '.')
	for stop := range want {
		var got []part
		for at, b := range seq {
			got = append(got, part{at, b})
			if len(got) == stop+1 {
				break
			}
		}
		if !same(got, want[:stop+1]) {
			t.Errorf("left behind %d: %v", stop+1, got)
		}
		if got := gather(seq); !same(got, want) {
			t.Errorf("begun again behind %d: %v", stop+1, got)
		}
	}
}

func TestBlocksWithinThemselves(t *testing.T) {
	s := texts()[len(texts())-1]
	want := wanted(s, '.')
	seq := Blocks(s, '.')
	var outer []part
	for at, b := range seq {
		if inner := gather(seq); !same(inner, want) {
			t.Errorf("within the round at %d: %v", at, inner)
		}
		outer = append(outer, part{at, b})
	}
	if !same(outer, want) {
		t.Errorf("around: %v", outer)
	}
}

func TestBlocksTwoRoundsInTurn(t *testing.T) {
	s := texts()[len(texts())-1]
	seq := Blocks(s, '.')
	next, stop := iter.Pull2(seq)
	defer stop()
	other, end := iter.Pull2(seq)
	defer end()
	other()
	for range 2 {
		at, b, ok := next()
		if again, c, more := other(); !ok || !more || again != at+64 || b == c {
			t.Errorf("in turn: %d %v, %d %v", at, ok, again, more)
		}
	}
}

// What is handed over is the caller's own: writing into it is seen nowhere else.
func TestBlocksAreTheCallersOwn(t *testing.T) {
	s := strings.Repeat("ab", 100)
	want := wanted(s, '.')
	seq := Blocks(s, '.')
	for _, b := range seq {
		for i := range b {
			b[i] = 0
		}
	}
	if got := gather(seq); !same(got, want) {
		t.Errorf("behind writing: %v", got)
	}
}

// P2.6

func TestMaskGoesThroughAClasssMaking(t *testing.T) {
	for _, b := range blocks() {
		for _, c := range classes() {
			if Mask(b, Not(c)) != ^Mask(b, c) {
				t.Fatalf("Not(%x)", c.Words)
			}
			for _, d := range classes() {
				if Mask(b, Join(c, d)) != Mask(b, c)|Mask(b, d) {
					t.Fatalf("Join(%x, %x)", c.Words, d.Words)
				}
				if Mask(b, Minus(c, d)) != Mask(b, c)&^Mask(b, d) {
					t.Fatalf("Minus(%x, %x)", c.Words, d.Words)
				}
			}
		}
	}
}

func TestEqualIsMaskOfOneByte(t *testing.T) {
	for _, b := range blocks() {
		for x := range 256 {
			if Equal(b, byte(x)) != Mask(b, Of(string([]byte{byte(x)}))) {
				t.Fatalf("the byte %d in %v", x, b)
			}
		}
	}
}

func TestTheBlocksAreTheText(t *testing.T) {
	for _, s := range texts() {
		var back strings.Builder
		for at, b := range Blocks(s, lastByte(s)) {
			again, n := Cut(s, at, lastByte(s))
			if b != again {
				t.Fatalf("the block at %d of %d bytes", at, len(s))
			}
			back.Write(b[:n])
		}
		if back.String() != s {
			t.Errorf("the blocks of %d bytes: %q, not %q", len(s), back.String(), s)
		}
	}
}

// lastByte is the pad that is hardest to tell from the text: only Cut's number does.
func lastByte(s string) byte {
	if s == "" {
		return 0
	}
	return s[len(s)-1]
}

func ExampleMask() {
	b, n := Cut(example, 0, ' ')
	fmt.Printf("%d %011b\n", n, Mask(b, Of("{}[]:,")))
	// Output: 11 11010110001
}
