package words

import (
	"fmt"
	"iter"
	"math"
	"math/big"
	"slices"
	"testing"
)

const all = math.MaxUint64

// set is the chapter's own word for a bit, by division alone, so that a wrong shift can't agree with itself.
func set(x uint64, i int) bool {
	for range i {
		x /= 2
	}
	return x%2 == 1
}

func worth(i int) uint64 {
	var w uint64 = 1
	for range i {
		w *= 2
	}
	return w
}

// word: the word of the bits of which it holds.
func word(holds func(i int) bool) uint64 {
	var w uint64
	for i := range 64 {
		if holds(i) {
			w += worth(i)
		}
	}
	return w
}

// row: the word of n set bits from a place on.
func row(at, n int) uint64 {
	return word(func(i int) bool { return i >= at && i < at+n })
}

// rule: ordinary numbers from a fixed rule.
type rule uint64

func (r *rule) next() uint64 {
	*r = *r*6364136223846793005 + 1442695040888963407
	return uint64(*r) ^ uint64(*r)>>29
}

// samples: no bit and all, one bit and all but one, rows from every place to every other, and mixed ones, thin and thick.
func samples() []uint64 {
	list := []uint64{0, all, 0x5555555555555555, 0xaaaaaaaaaaaaaaaa, 0x3333333333333333, 0xcccccccccccccccc, 0x8000000000000001, 0x7ffffffffffffffe, 0xffffffff, 0xffffffff00000000}
	for at := range 64 {
		list = append(list, all-worth(at))
		for n := 1; at+n <= 64; n++ {
			list = append(list, row(at, n))
		}
	}
	r := rule(4)
	for range 400 {
		a, b, c := r.next(), r.next(), r.next()
		list = append(list, a, a&b, a|b, a&b&c, a|b|c)
	}
	return list
}

var edges = []int{math.MinInt, math.MinInt + 1, -65, -64, -63, -5, -2, -1, 0, 1, 2, 31, 32, 33, 62, 63, 64, 65, 66, 99, 127, 128, 129, 1 << 32, 1<<32 + 1, math.MaxInt - 63, math.MaxInt - 1, math.MaxInt}

// places: the set bits, by asking for each.
func places(x uint64) []int {
	var list []int
	for i := range 64 {
		if set(x, i) {
			list = append(list, i)
		}
	}
	return list
}

// P3.1

// prefix is P3.1 word by word.
func prefix(x uint64) uint64 {
	odd := false
	return word(func(i int) bool {
		odd = odd != set(x, i)
		return odd
	})
}

func TestPrefixExamples(t *testing.T) {
	for _, c := range []struct{ x, want uint64 }{
		{0, 0},
		{1, all},
		{0x14, 0xc},
		{1 << 63, 1 << 63},
		{all, 0x5555555555555555},
		{1 + 1<<63, 1<<63 - 1},
		{1 << 32, 0xffffffff00000000},
	} {
		if got := Prefix(c.x); got != c.want {
			t.Errorf("Prefix(%x): %x, not %x", c.x, got, c.want)
		}
	}
}

func TestPrefix(t *testing.T) {
	for _, x := range samples() {
		if got, want := Prefix(x), prefix(x); got != want {
			t.Fatalf("Prefix(%x): %x, not %x", x, got, want)
		}
	}
}

// P3.2

// add is P3.2 word by word, in numbers that have no end.
func add(a, b uint64, carry bool) (uint64, bool) {
	n := new(big.Int).SetUint64(a)
	n.Add(n, new(big.Int).SetUint64(b))
	if carry {
		n.Add(n, big.NewInt(1))
	}
	bound := new(big.Int).Exp(big.NewInt(2), big.NewInt(64), nil)
	if n.Cmp(bound) >= 0 {
		return n.Sub(n, bound).Uint64(), true
	}
	return n.Uint64(), false
}

func TestAddExamples(t *testing.T) {
	for _, c := range []struct {
		a, b  uint64
		carry bool
		want  uint64
		out   bool
	}{
		{all, 0, true, 0, true},
		{1, 2, false, 3, false},
		{1 << 63, 1 << 63, true, 1, true},
		{0, 0, false, 0, false},
		{0, 0, true, 1, false},
		{0, all, true, 0, true},
		{all, 0, false, all, false},
		{0, all, false, all, false},
		{all, 1, false, 0, true},
		{1, all, true, 1, true},
		{all, all, false, all - 1, true},
		{all, all, true, all, true},
		{1<<63 - 1, 1 << 63, false, all, false},
		{1<<63 - 1, 1 << 63, true, 0, true},
		{1 << 63, 1 << 63, false, 0, true},
	} {
		if got, out := Add(c.a, c.b, c.carry); got != c.want || out != c.out {
			t.Errorf("Add(%x, %x, %v): %x %v, not %x %v", c.a, c.b, c.carry, got, out, c.want, c.out)
		}
	}
}

func TestAdd(t *testing.T) {
	list := []uint64{0, 1, 2, 1<<32 - 1, 1 << 32, 1<<63 - 1, 1 << 63, 1<<63 + 1, all - 1, all}
	r := rule(5)
	for range 40 {
		list = append(list, r.next())
	}
	for _, a := range list {
		for _, b := range append([]uint64{all - a, all - a + 1, all - a - 1}, list...) {
			for _, carry := range []bool{false, true} {
				want, over := add(a, b, carry)
				if got, out := Add(a, b, carry); got != want || out != over {
					t.Fatalf("Add(%x, %x, %v): %x %v, not %x %v", a, b, carry, got, out, want, over)
				}
			}
		}
	}
}

// P3.3

// rank is P3.3 word by word.
func rank(x uint64, i int) int {
	n := 0
	for j := range 64 {
		if j < i && set(x, j) {
			n++
		}
	}
	return n
}

func TestRankExamples(t *testing.T) {
	for _, c := range []struct {
		x    uint64
		i    int
		want int
	}{
		{0xb, 2, 2},
		{0xb, 0, 0},
		{0xb, -5, 0},
		{0xb, 64, 3},
		{0xb, 99, 3},
		{1, 1, 1},
		{1, 0, 0},
		{1, -1, 0},
		{1 << 63, 63, 0},
		{1 << 63, 64, 1},
		{1 << 63, 65, 1},
		{all, 63, 63},
		{all, 64, 64},
		{all, 65, 64},
		{all, math.MaxInt, 64},
		{all, math.MinInt, 0},
		{all, -1, 0},
		{all, -64, 0},
		{0, 64, 0},
	} {
		if got := Rank(c.x, c.i); got != c.want {
			t.Errorf("Rank(%x, %d): %d, not %d", c.x, c.i, got, c.want)
		}
	}
}

func TestRank(t *testing.T) {
	for _, x := range samples() {
		for i := -2; i < 70; i++ {
			if got, want := Rank(x, i), rank(x, i); got != want {
				t.Fatalf("Rank(%x, %d): %d, not %d", x, i, got, want)
			}
		}
	}
	for _, x := range []uint64{0, 1, 1 << 63, 0xb, all} {
		for _, i := range edges {
			if got, want := Rank(x, i), rank(x, i); got != want {
				t.Errorf("Rank(%x, %d): %d, not %d", x, i, got, want)
			}
		}
	}
}

// P3.4

// choose is P3.4 word by word: a place is asked for how many stand below it.
func choose(x uint64, k int) int {
	for i := range 64 {
		if set(x, i) && rank(x, i) == k {
			return i
		}
	}
	return -1
}

func TestSelectExamples(t *testing.T) {
	for _, c := range []struct {
		x    uint64
		k    int
		want int
	}{
		{0xb, 0, 0},
		{0xb, 1, 1},
		{0xb, 2, 3},
		{0xb, 3, -1},
		{0xb, 4, -1},
		{0xb, -1, -1},
		{0, 0, -1},
		{0, -1, -1},
		{1 << 63, 0, 63},
		{1 << 63, 1, -1},
		{all, 0, 0},
		{all, 63, 63},
		{all, 64, -1},
		{all, 65, -1},
		{all, -1, -1},
		{all, -64, -1},
		{all, math.MinInt, -1},
		{all, math.MaxInt, -1},
	} {
		if got := Select(c.x, c.k); got != c.want {
			t.Errorf("Select(%x, %d): %d, not %d", c.x, c.k, got, c.want)
		}
	}
}

func TestSelect(t *testing.T) {
	for _, x := range samples() {
		list := places(x)
		for k := -2; k < 67; k++ {
			want := -1
			if k >= 0 && k < len(list) {
				want = list[k]
			}
			if got := Select(x, k); got != want {
				t.Fatalf("Select(%x, %d): %d, not %d", x, k, got, want)
			}
		}
	}
	for _, x := range []uint64{0, 1, 1 << 63, 0xb, all} {
		for _, k := range edges {
			if got, want := Select(x, k), choose(x, k); got != want {
				t.Errorf("Select(%x, %d): %d, not %d", x, k, got, want)
			}
		}
	}
}

// P3.5

type span struct{ at, n int }

// spans: the rows, by the chapter's word: neither the bit ahead nor the one behind is set.
func spans(x uint64) []span {
	var list []span
	for at := range 64 {
		for n := 1; at+n <= 64; n++ {
			free := (at == 0 || !set(x, at-1)) && (at+n == 64 || !set(x, at+n))
			if free && x/worth(at)%2 == 1 && rank(x, at+n)-rank(x, at) == n {
				list = append(list, span{at, n})
			}
		}
	}
	return list
}

func gather(seq iter.Seq2[int, int]) []span {
	var list []span
	for at, n := range seq {
		list = append(list, span{at, n})
	}
	return list
}

func TestEachExamples(t *testing.T) {
	for _, c := range []struct {
		x    uint64
		want []int
	}{
		{0xb, []int{0, 1, 3}},
		{0, nil},
		{1, []int{0}},
		{1 << 63, []int{63}},
		{1 + 1<<63, []int{0, 63}},
	} {
		if got := slices.Collect(Each(c.x)); !slices.Equal(got, c.want) {
			t.Errorf("Each(%x): %v, not %v", c.x, got, c.want)
		}
	}
}

func TestEach(t *testing.T) {
	for _, x := range samples() {
		if got, want := slices.Collect(Each(x)), places(x); !slices.Equal(got, want) {
			t.Fatalf("Each(%x): %v, not %v", x, got, want)
		}
	}
}

func TestRunsExamples(t *testing.T) {
	for _, c := range []struct {
		x    uint64
		want []span
	}{
		{0xb, []span{{0, 2}, {3, 1}}},
		{all, []span{{0, 64}}},
		{0, nil},
		{1, []span{{0, 1}}},
		{1 << 63, []span{{63, 1}}},
		{1 + 1<<63, []span{{0, 1}, {63, 1}}},
		{3 << 62, []span{{62, 2}}},
		{all - 1, []span{{1, 63}}},
		{all >> 1, []span{{0, 63}}},
		{0xf00000000000000f, []span{{0, 4}, {60, 4}}},
	} {
		if got := gather(Runs(c.x)); !slices.Equal(got, c.want) {
			t.Errorf("Runs(%x): %v, not %v", c.x, got, c.want)
		}
	}
	if got := gather(Runs(0x5555555555555555)); len(got) != 32 || got[31] != (span{62, 1}) {
		t.Errorf("Runs of every other bit: %v", got)
	}
}

func TestRuns(t *testing.T) {
	list := samples()
	for i := 0; i < len(list); i += 7 {
		x := list[i]
		if got, want := gather(Runs(x)), spans(x); !slices.Equal(got, want) {
			t.Fatalf("Runs(%x): %v, not %v", x, got, want)
		}
	}
	for _, x := range list {
		var back uint64
		end := -1
		for at, n := range Runs(x) {
			if n < 1 || at <= end {
				t.Fatalf("Runs(%x): %d bits at %d, behind %d", x, n, at, end)
			}
			end = at + n
			back += row(at, n)
		}
		if back != x {
			t.Fatalf("Runs(%x) are the rows of %x", x, back)
		}
	}
}

// many has rows of one bit and of more, the bit 63 among them.
const many = 0xc00f00d00000070b

func TestEachLeftEarlyAndBegunAgain(t *testing.T) {
	want := places(many)
	seq := Each(many)
	for stop := range want {
		var got []int
		for at := range seq {
			got = append(got, at)
			if len(got) == stop+1 {
				break
			}
		}
		if !slices.Equal(got, want[:stop+1]) {
			t.Errorf("left behind %d: %v", stop+1, got)
		}
		if got := slices.Collect(seq); !slices.Equal(got, want) {
			t.Errorf("begun again behind %d: %v", stop+1, got)
		}
	}
}

func TestRunsLeftEarlyAndBegunAgain(t *testing.T) {
	want := spans(many)
	seq := Runs(many)
	for stop := range want {
		var got []span
		for at, n := range seq {
			got = append(got, span{at, n})
			if len(got) == stop+1 {
				break
			}
		}
		if !slices.Equal(got, want[:stop+1]) {
			t.Errorf("left behind %d: %v", stop+1, got)
		}
		if got := gather(seq); !slices.Equal(got, want) {
			t.Errorf("begun again behind %d: %v", stop+1, got)
		}
	}
}

func TestEachWithinItself(t *testing.T) {
	want := places(many)
	seq := Each(many)
	var outer []int
	for at := range seq {
		if inner := slices.Collect(seq); !slices.Equal(inner, want) {
			t.Errorf("within the round at %d: %v", at, inner)
		}
		outer = append(outer, at)
	}
	if !slices.Equal(outer, want) {
		t.Errorf("around: %v", outer)
	}
}

func TestRunsWithinThemselves(t *testing.T) {
	want := spans(many)
	seq := Runs(many)
	var outer []span
	for at, n := range seq {
		if inner := gather(seq); !slices.Equal(inner, want) {
			t.Errorf("within the round at %d: %v", at, inner)
		}
		outer = append(outer, span{at, n})
	}
	if !slices.Equal(outer, want) {
		t.Errorf("around: %v", outer)
	}
}

func TestTwoRoundsInTurn(t *testing.T) {
	each, runs := Each(many), Runs(many)
	next, stop := iter.Pull(each)
	defer stop()
	other, end := iter.Pull(each)
	defer end()
	other()
	want := places(many)
	for i := range len(want) - 1 {
		at, ok := next()
		if ahead, more := other(); !ok || !more || at != want[i] || ahead != want[i+1] {
			t.Errorf("Each in turn: %d %v, %d %v", at, ok, ahead, more)
		}
	}
	nextRun, stopRun := iter.Pull2(runs)
	defer stopRun()
	otherRun, endRun := iter.Pull2(runs)
	defer endRun()
	otherRun()
	rows := spans(many)
	for i := range len(rows) - 1 {
		at, n, ok := nextRun()
		if ahead, m, more := otherRun(); !ok || !more || (span{at, n}) != rows[i] || (span{ahead, m}) != rows[i+1] {
			t.Errorf("Runs in turn: %d %d %v, %d %d %v", at, n, ok, ahead, m, more)
		}
	}
}

// P3.6

// escape is the chapter's word for escaped bits, one behind the other; its list has a bit more than the words.
func escape(list []uint64, carry bool) []bool {
	answer := []bool{carry}
	for _, x := range list {
		for i := range 64 {
			answer = append(answer, set(x, i) && !answer[len(answer)-1])
		}
	}
	return answer
}

func TestEscapedExamples(t *testing.T) {
	for _, c := range []struct {
		x     uint64
		carry bool
		want  uint64
		out   bool
	}{
		{1, false, 2, false},
		{3, false, 2, false},
		{7, false, 0xa, false},
		{3, true, 5, false},
		{1 << 63, false, 0, true},
		{all, false, 0xaaaaaaaaaaaaaaaa, false},
		{all, true, 0x5555555555555555, true},
		{0, false, 0, false},
		{0, true, 1, false},
		{1, true, 1, false},
		{2, true, 5, false},
		{2, false, 4, false},
		{6, true, 5, false},
		{1 << 63, true, 1, true},
		{1 + 1<<63, true, 1, true},
		{1 + 1<<63, false, 2, true},
		{3 << 62, false, 1 << 63, false},
		{3 << 62, true, 1 + 1<<63, false},
		{7 << 61, false, 1 << 62, true},
		{1 << 62, false, 1 << 63, false},
		{all >> 1, false, 0xaaaaaaaaaaaaaaaa, false},
		{all >> 1, true, 0x5555555555555555, false},
		{all - 1, false, 0x5555555555555554, true},
		{all - 1, true, 0x5555555555555555, true},
	} {
		if got, out := Escaped(c.x, c.carry); got != c.want || out != c.out {
			t.Errorf("Escaped(%x, %v): %x %v, not %x %v", c.x, c.carry, got, out, c.want, c.out)
		}
	}
}

func TestEscaped(t *testing.T) {
	for _, x := range samples() {
		for _, carry := range []bool{false, true} {
			want := escape([]uint64{x}, carry)
			got, out := Escaped(x, carry)
			if got != word(func(i int) bool { return want[i] }) || out != want[64] {
				t.Fatalf("Escaped(%x, %v): %x %v", x, carry, got, out)
			}
		}
	}
}

// P3.7

func TestPrefixIsUndoneByExclusiveOr(t *testing.T) {
	list := samples()
	for i, x := range list {
		y := list[len(list)-1-i]
		if p := Prefix(x); p^p<<1 != x {
			t.Fatalf("Prefix(%x): %x", x, p)
		}
		if Prefix(x^y) != Prefix(x)^Prefix(y) {
			t.Fatalf("Prefix of %x and %x", x, y)
		}
	}
}

func TestRankAndSelectAnswerOneAnother(t *testing.T) {
	for _, x := range samples() {
		for k := -1; k < 66; k++ {
			if at := Select(x, k); at != -1 && Rank(x, at) != k {
				t.Fatalf("Rank(%x, Select %d): %d", x, k, Rank(x, at))
			}
		}
		for i := range Each(x) {
			if Select(x, Rank(x, i)) != i {
				t.Fatalf("Select(%x, Rank %d): %d", x, i, Select(x, Rank(x, i)))
			}
		}
		if Select(x, Rank(x, 64)) != -1 || Rank(x, 64) > 0 && Select(x, Rank(x, 64)-1) == -1 {
			t.Fatalf("the last of %x", x)
		}
	}
}

// checkRow asks for several words' escaped bits one behind the other, and holds them to those of the whole row.
func checkRow(t *testing.T, list []uint64, carry bool) {
	t.Helper()
	want := escape(list, carry)
	next := carry
	for j, x := range list {
		var got uint64
		got, next = Escaped(x, next)
		if got != word(func(i int) bool { return want[64*j+i] }) || next != want[64*j+64] {
			t.Fatalf("%x, %v: the word %d: %x %v", list, carry, j, got, next)
		}
	}
}

func TestEscapedOverSeveralWords(t *testing.T) {
	for from := range 128 {
		for to := from; to <= 256; to += 1 + to/70 {
			var list []uint64
			for j := range 4 {
				list = append(list, word(func(i int) bool { return 64*j+i >= from && 64*j+i < to }))
			}
			checkRow(t, list, false)
			checkRow(t, list, true)
		}
	}
	list := samples()
	for i := range len(list) - 3 {
		checkRow(t, list[i:i+3], i%2 == 1)
	}
}

// Of two words: a row of backslashes that goes over the end of the first one, by hand.
func TestEscapedOverTheEnd(t *testing.T) {
	word, out := Escaped(3<<62, false)
	if word != 1<<63 || out {
		t.Errorf("two at the end: %x %v", word, out)
	}
	if word, out = Escaped(1, out); word != 2 || out {
		t.Errorf("and a third one: %x %v", word, out)
	}
	word, out = Escaped(7<<61, false)
	if word != 1<<62 || !out {
		t.Errorf("three at the end: %x %v", word, out)
	}
	if word, out = Escaped(1, out); word != 1 || out {
		t.Errorf("and a fourth one: %x %v", word, out)
	}
}

func ExampleRuns() {
	for at, n := range Runs(0xb) {
		fmt.Println(at, n)
	}
	// Output:
	// 0 2
	// 3 1
}
