package bitmap

import (
	"fmt"
	"iter"
	"math"
	"slices"
	"testing"

	"quarry/api"
)

const all = math.MaxUint64

// lens: no bit, one, the ends of words and what is beside them.
var lens = []int{0, 1, 2, 31, 62, 63, 64, 65, 70, 126, 127, 128, 129, 191, 192, 193, 256, 300}

var edges = []int{math.MinInt, math.MinInt + 1, math.MinInt + 64, -65, -64, -63, -5, -2, -1, 0, 1, 2, 3, 62, 63, 64, 65, 66, 69, 70, 71, 127, 128, 129, 191, 192, 193, 299, 300, 301, 1000, 1 << 32, math.MaxInt - 64, math.MaxInt - 1, math.MaxInt}

// tell: the row's places one by one, by division alone, so that a wrong shift can't agree with itself.
func tell(b api.Bits) []bool {
	list := make([]bool, b.Len)
	for i := range list {
		x := b.Words[i/64]
		for range i % 64 {
			x /= 2
		}
		list[i] = x%2 == 1
	}
	return list
}

// row is what tell undoes: well shaped, as the chapter says it.
func row(list []bool) api.Bits {
	b := api.Bits{Len: len(list)}
	for i, is := range list {
		if i%64 == 0 {
			b.Words = append(b.Words, 0)
		}
		if is {
			var worth uint64 = 1
			for range i % 64 {
				worth *= 2
			}
			b.Words[i/64] += worth
		}
	}
	return b
}

func rowOf(n int, holds func(i int) bool) api.Bits {
	list := make([]bool, n)
	for i := range list {
		list[i] = holds(i)
	}
	return row(list)
}

func places(list []bool) []int {
	var at []int
	for i, is := range list {
		if is {
			at = append(at, i)
		}
	}
	return at
}

func same(a, b api.Bits) bool { return a.Len == b.Len && slices.Equal(a.Words, b.Words) }

func zero(b api.Bits) bool { return b.Len == 0 && len(b.Words) == 0 }

func copied(b api.Bits) api.Bits { return api.Bits{Len: b.Len, Words: slices.Clone(b.Words)} }

// rule: ordinary numbers from a fixed rule.
type rule uint64

func (r *rule) next() uint64 {
	*r = *r*6364136223846793005 + 1442695040888963407
	return uint64(*r) ^ uint64(*r)>>29
}

// rows: of one Len: no place set, all, one, all but one, every other, and mixed ones, thin and thick.
func rows(n int) []api.Bits {
	list := []api.Bits{
		rowOf(n, func(int) bool { return false }),
		rowOf(n, func(int) bool { return true }),
		rowOf(n, func(i int) bool { return i%2 == 0 }),
		rowOf(n, func(i int) bool { return i%64 == 63 }),
		rowOf(n, func(i int) bool { return i%64 == 0 }),
	}
	for _, at := range []int{0, 1, 62, 63, 64, 65, 127, 128, n / 2, n - 2, n - 1} {
		if at >= 0 && at < n {
			list = append(list, rowOf(n, func(i int) bool { return i == at }), rowOf(n, func(i int) bool { return i != at }))
		}
	}
	r := rule(n)
	for _, of := range []uint64{2, 2, 2, 3, 10, 60} {
		list = append(list, rowOf(n, func(int) bool { return r.next()%of == 0 }), rowOf(n, func(int) bool { return r.next()%of != 0 }))
	}
	return list
}

// unshaped: a Len below 0, words too few, words too many, bits that aren't below Len.
func unshaped() []api.Bits {
	return []api.Bits{
		{Len: -1},
		{Len: -1, Words: []uint64{1}},
		{Len: -63},
		{Len: -64},
		{Len: -64, Words: []uint64{1}},
		{Len: math.MinInt},
		{Len: 70, Words: []uint64{9}},
		{Len: 70, Words: []uint64{9, 1, 0}},
		{Len: 3, Words: []uint64{9}},
		{Len: 3, Words: []uint64{8}},
		{Len: 0, Words: []uint64{0}},
		{Len: 0, Words: []uint64{1}},
		{Len: 1},
		{Len: 1, Words: []uint64{2}},
		{Len: 1, Words: []uint64{3}},
		{Len: 1, Words: []uint64{1, 0}},
		{Len: 63, Words: []uint64{1 << 63}},
		{Len: 63, Words: []uint64{all}},
		{Len: 64},
		{Len: 64, Words: []uint64{9, 0}},
		{Len: 65, Words: []uint64{9}},
		{Len: 65, Words: []uint64{9, 2}},
		{Len: 65, Words: []uint64{9, 1 << 63}},
		{Len: 127, Words: []uint64{all, all}},
		{Len: 128, Words: []uint64{all}},
		{Len: 128, Words: []uint64{all, all, 0}},
		{Len: math.MaxInt},
		{Len: math.MaxInt, Words: []uint64{1}},
		{Len: math.MaxInt - 62},
		{Len: math.MaxInt - 63},
	}
}

var joins = []struct {
	name  string
	call  func(a, b api.Bits) (api.Bits, api.Errno)
	holds func(x, y bool) bool
}{
	{"And", And, func(x, y bool) bool { return x && y }},
	{"Or", Or, func(x, y bool) bool { return x || y }},
	{"Xor", Xor, func(x, y bool) bool { return x != y }},
	{"Minus", Minus, func(x, y bool) bool { return x && !y }},
}

var changes = []struct {
	name string
	call func(b api.Bits) (api.Bits, api.Errno)
}{
	{"Not", Not},
	{"Prefix", Prefix},
}

// ok: a row that is answered, OK beside it.
func ok(t *testing.T, b api.Bits, e api.Errno) api.Bits {
	t.Helper()
	if e != api.OK || !Formed(b) {
		t.Fatalf("%v, error %d", b, e)
	}
	return b
}

// P4.1

func TestFormed(t *testing.T) {
	for _, b := range []api.Bits{
		{},
		{Words: []uint64{}},
		{Len: 64, Words: []uint64{9}},
		{Len: 64, Words: []uint64{all}},
		{Len: 1, Words: []uint64{0}},
		{Len: 1, Words: []uint64{1}},
		{Len: 3, Words: []uint64{7}},
		{Len: 63, Words: []uint64{1<<63 - 1}},
		{Len: 65, Words: []uint64{all, 1}},
		{Len: 70, Words: []uint64{9, 1}},
		{Len: 127, Words: []uint64{all, 1<<63 - 1}},
		{Len: 128, Words: []uint64{all, all}},
	} {
		if !Formed(b) {
			t.Errorf("%v is well shaped", b)
		}
	}
	for _, b := range unshaped() {
		if Formed(b) {
			t.Errorf("%v is not well shaped", b)
		}
	}
}

func TestFormedOfEveryLen(t *testing.T) {
	for n := range 200 {
		for count := range 5 {
			b := api.Bits{Len: n, Words: make([]uint64, count)}
			fits := 64*count >= n && 64*(count-1) < n
			if Formed(b) != fits {
				t.Fatalf("Len %d of %d words: %v", n, count, !fits)
			}
			for at := 0; fits && at < 64*count; at++ {
				one := row(append(make([]bool, at), true))
				copy(b.Words, make([]uint64, count))
				copy(b.Words, one.Words)
				if Formed(b) != (at < n) {
					t.Fatalf("Len %d, the bit %d: %v", n, at, at >= n)
				}
			}
		}
	}
}

func TestWhatIsAnsweredIsWellShaped(t *testing.T) {
	for _, n := range lens {
		list := rows(n)
		for i, a := range list {
			b := list[(i+5)%len(list)]
			for _, j := range joins {
				c, e := j.call(a, b)
				ok(t, c, e)
			}
			for _, c := range changes {
				d, e := c.call(a)
				ok(t, d, e)
			}
			m, e := Make(n, places(tell(a)))
			ok(t, m, e)
		}
	}
}

// P4.2

func TestMake(t *testing.T) {
	for _, c := range []struct {
		n      int
		places []int
		want   []uint64
	}{
		{70, []int{0, 3, 64, 3}, []uint64{9, 1}},
		{0, nil, nil},
		{0, []int{}, nil},
		{1, nil, []uint64{0}},
		{1, []int{0}, []uint64{1}},
		{1, []int{0, 0, 0}, []uint64{1}},
		{63, []int{62}, []uint64{1 << 62}},
		{64, []int{63}, []uint64{1 << 63}},
		{64, nil, []uint64{0}},
		{65, []int{64}, []uint64{0, 1}},
		{65, []int{64, 0}, []uint64{1, 1}},
		{128, []int{127, 63, 64, 0, 127}, []uint64{1 + 1<<63, 1 + 1<<63}},
		{129, nil, []uint64{0, 0, 0}},
	} {
		b, e := Make(c.n, c.places)
		if e != api.OK || !same(b, api.Bits{Len: c.n, Words: c.want}) {
			t.Errorf("Make(%d, %v): %v, error %d", c.n, c.places, b, e)
		}
	}
}

func TestMakeRefuses(t *testing.T) {
	for _, c := range []struct {
		n      int
		places []int
	}{
		{3, []int{3}},
		{3, []int{-1}},
		{3, []int{0, 1, 2, 3}},
		{3, []int{3, 0}},
		{3, []int{64}},
		{3, []int{math.MaxInt}},
		{3, []int{math.MinInt}},
		{0, []int{0}},
		{0, []int{-1}},
		{1, []int{1}},
		{63, []int{63}},
		{64, []int{64}},
		{65, []int{65}},
		{65, []int{2, -64}},
		{-1, nil},
		{-1, []int{-1}},
		{-64, nil},
		{math.MinInt, nil},
		{16777217, nil},
		{16777217, []int{0}},
		{math.MaxInt, nil},
		{api.MaxBits, []int{api.MaxBits}},
		{api.MaxBits, []int{0, -1}},
	} {
		b, e := Make(c.n, c.places)
		if e != api.ErrRange || !zero(b) {
			t.Errorf("Make(%d, %v): %v words, Len %d, error %d", c.n, c.places, len(b.Words), b.Len, e)
		}
	}
}

func TestMakeOfMaxBits(t *testing.T) {
	b, e := Make(16777216, []int{16777215, 0, 64})
	if e != api.OK || b.Len != 16777216 || len(b.Words) != 262144 {
		t.Fatalf("Len %d, %d words, error %d", b.Len, len(b.Words), e)
	}
	if !Formed(b) || b.Words[262143] != 1<<63 || !slices.Equal(slices.Collect(Each(b)), []int{0, 64, 16777215}) {
		t.Errorf("the last word %x", b.Words[262143])
	}
}

func TestMakeOfEveryRow(t *testing.T) {
	for _, n := range lens {
		for _, want := range rows(n) {
			at := places(tell(want))
			slices.Reverse(at)
			at = append(at, at...)
			asked := slices.Clone(at)
			if b, e := Make(n, at); e != api.OK || !same(b, want) {
				t.Fatalf("Make(%d, %v): %v, error %d", n, at, b, e)
			}
			if !slices.Equal(at, asked) {
				t.Fatalf("the places were written: %v", at)
			}
		}
	}
}

// P4.3

func TestJoinsExamples(t *testing.T) {
	a, _ := Make(70, []int{0, 3, 64})
	b, _ := Make(70, []int{3, 4, 69})
	for i, want := range [][]int{{3}, {0, 3, 4, 64, 69}, {0, 4, 64, 69}, {0, 64}} {
		c, e := joins[i].call(a, b)
		if w, _ := Make(70, want); e != api.OK || !same(c, w) {
			t.Errorf("%s: %v, error %d", joins[i].name, c, e)
		}
	}
	c, e := Minus(b, a)
	if w, _ := Make(70, []int{4, 69}); e != api.OK || !same(c, w) {
		t.Errorf("Minus the other way round: %v, error %d", c, e)
	}
}

func TestJoins(t *testing.T) {
	for _, n := range lens {
		list := rows(n)
		for _, a := range list {
			for _, b := range list {
				x, y := tell(a), tell(b)
				for _, j := range joins {
					want := rowOf(n, func(i int) bool { return j.holds(x[i], y[i]) })
					if c, e := j.call(a, b); e != api.OK || !same(c, want) {
						t.Fatalf("%s of %v and %v: %v, error %d", j.name, a, b, c, e)
					}
				}
			}
		}
	}
}

func TestJoinsRefuse(t *testing.T) {
	good := []api.Bits{{}, rowOf(1, func(int) bool { return true }), rowOf(70, func(int) bool { return true })}
	refused := func(a, b api.Bits, want api.Errno) {
		t.Helper()
		for _, j := range joins {
			if c, e := j.call(a, b); e != want || !zero(c) {
				t.Errorf("%s of %v and %v: %v, error %d, not %d", j.name, a, b, c, e, want)
			}
		}
	}
	for i, bad := range unshaped() {
		for _, b := range good {
			refused(bad, b, api.ErrShape)
			refused(b, bad, api.ErrShape)
		}
		// Two that are not well shaped, of one Len and of two: never the Lens are told.
		refused(bad, bad, api.ErrShape)
		refused(bad, unshaped()[(i+1)%len(unshaped())], api.ErrShape)
	}
	a, _ := Make(70, []int{0, 3, 64})
	short, _ := Make(64, []int{3})
	refused(a, short, api.ErrRange)
	refused(short, a, api.ErrRange)
	refused(a, api.Bits{Len: 1}, api.ErrShape)
	for _, n := range lens {
		for _, m := range lens {
			if n != m {
				refused(rows(n)[0], rows(m)[0], api.ErrRange)
			}
		}
	}
}

func TestNotExample(t *testing.T) {
	a, _ := Make(70, []int{0, 3, 64})
	n, e := Not(a)
	if e != api.OK || !same(n, rowOf(70, func(i int) bool { return i != 0 && i != 3 && i != 64 })) || Count(n, 0, 70) != 67 {
		t.Errorf("%v, error %d", n, e)
	}
}

func TestNot(t *testing.T) {
	for _, n := range lens {
		for _, a := range rows(n) {
			x := tell(a)
			want := rowOf(n, func(i int) bool { return !x[i] })
			if b, e := Not(a); e != api.OK || !same(b, want) {
				t.Fatalf("Not(%v): %v, error %d", a, b, e)
			}
		}
	}
}

func TestPrefixExamples(t *testing.T) {
	for _, c := range []struct {
		n        int
		at, want []int
	}{
		{70, []int{0, 3, 64}, []int{0, 1, 2, 64, 65, 66, 67, 68, 69}},
		{0, nil, nil},
		{1, nil, nil},
		{1, []int{0}, []int{0}},
		{3, []int{1}, []int{1, 2}},
		{64, []int{63}, []int{63}},
		{65, []int{63}, []int{63, 64}},
		{66, []int{63, 64}, []int{63}},
		{67, []int{64}, []int{64, 65, 66}},
	} {
		b, _ := Make(c.n, c.at)
		want, _ := Make(c.n, c.want)
		if p, e := Prefix(b); e != api.OK || !same(p, want) {
			t.Errorf("Prefix of %d: %v: %v, error %d", c.n, c.at, p, e)
		}
	}
}

func TestPrefix(t *testing.T) {
	for _, n := range lens {
		for _, b := range rows(n) {
			x := tell(b)
			odd := false
			want := rowOf(n, func(i int) bool {
				odd = odd != x[i]
				return odd
			})
			if p, e := Prefix(b); e != api.OK || !same(p, want) {
				t.Fatalf("Prefix(%v): %v, error %d", b, p, e)
			}
		}
	}
}

func TestChangesRefuse(t *testing.T) {
	for _, bad := range unshaped() {
		for _, c := range changes {
			if b, e := c.call(bad); e != api.ErrShape || !zero(b) {
				t.Errorf("%s(%v): %v, error %d", c.name, bad, b, e)
			}
		}
	}
}

// P4.4

func TestAsksOfUnshaped(t *testing.T) {
	for _, bad := range unshaped() {
		if got := slices.Collect(Each(bad)); len(got) != 0 {
			t.Errorf("Each(%v): %v", bad, got)
		}
		for _, i := range edges {
			if Get(bad, i) || Select(bad, i) != -1 || Next(bad, i) != -1 || Last(bad, i) != -1 {
				t.Errorf("%v at %d: %v %d %d %d", bad, i, Get(bad, i), Select(bad, i), Next(bad, i), Last(bad, i))
			}
			for _, to := range edges {
				if n := Count(bad, i, to); n != 0 {
					t.Errorf("Count(%v, %d, %d): %d", bad, i, to, n)
				}
			}
		}
	}
}

func TestAsksExamples(t *testing.T) {
	a, _ := Make(70, []int{0, 3, 64})
	for i, want := range map[int]bool{3: true, 0: true, 64: true, 2: false, -1: false, 70: false, 63: false, 69: false, 128: false, -64: false} {
		if Get(a, i) != want {
			t.Errorf("Get %d: %v", i, !want)
		}
	}
	for _, c := range [][3]int{{0, 70, 3}, {1, 64, 1}, {-9, 1000, 3}, {64, 3, 0}, {0, 0, 0}, {3, 3, 0}, {3, 4, 1}, {64, 65, 1}, {63, 64, 0}, {65, 70, 0}, {70, 71, 0}, {-5, 0, 0}, {-5, 1, 1}, {math.MinInt, math.MaxInt, 3}, {math.MaxInt, math.MinInt, 0}, {64, math.MaxInt, 1}, {math.MinInt, 64, 2}} {
		if got := Count(a, c[0], c[1]); got != c[2] {
			t.Errorf("Count(%d, %d): %d, not %d", c[0], c[1], got, c[2])
		}
	}
	for _, c := range [][2]int{{0, 0}, {1, 3}, {2, 64}, {3, -1}, {-1, -1}, {math.MaxInt, -1}, {math.MinInt, -1}} {
		if got := Select(a, c[0]); got != c[1] {
			t.Errorf("Select %d: %d, not %d", c[0], got, c[1])
		}
	}
	for _, c := range [][2]int{{0, 0}, {1, 3}, {3, 3}, {4, 64}, {63, 64}, {64, 64}, {65, -1}, {69, -1}, {70, -1}, {71, -1}, {-5, 0}, {math.MinInt, 0}, {math.MaxInt, -1}} {
		if got := Next(a, c[0]); got != c[1] {
			t.Errorf("Next %d: %d, not %d", c[0], got, c[1])
		}
	}
	for _, c := range [][2]int{{70, 64}, {65, 64}, {64, 3}, {63, 3}, {4, 3}, {3, 0}, {1, 0}, {0, -1}, {-1, -1}, {71, 64}, {128, 64}, {math.MinInt, -1}, {math.MaxInt, 64}} {
		if got := Last(a, c[0]); got != c[1] {
			t.Errorf("Last %d: %d, not %d", c[0], got, c[1])
		}
	}
}

// numbers: the edges, and every place of a row and some beside it.
func numbers(n int) []int {
	list := slices.Clone(edges)
	for i := -2; i < n+3; i++ {
		list = append(list, i)
	}
	return list
}

func TestGet(t *testing.T) {
	for _, n := range lens {
		for _, b := range rows(n) {
			x := tell(b)
			for _, i := range numbers(n) {
				want := i >= 0 && i < n && x[i]
				if Get(b, i) != want {
					t.Fatalf("Get(%v, %d): %v", b, i, !want)
				}
			}
		}
	}
}

func TestCount(t *testing.T) {
	for _, n := range lens {
		some := slices.Concat(edges, []int{n - 1, n, n + 1, n / 2, n / 3})
		for _, b := range rows(n) {
			at := places(tell(b))
			for _, from := range some {
				for _, to := range some {
					want := 0
					for _, i := range at {
						if i >= from && i < to {
							want++
						}
					}
					if got := Count(b, from, to); got != want {
						t.Fatalf("Count(%v, %d, %d): %d, not %d", b, from, to, got, want)
					}
				}
			}
		}
	}
}

func TestSelect(t *testing.T) {
	for _, n := range lens {
		for _, b := range rows(n) {
			at := places(tell(b))
			for _, k := range numbers(n) {
				want := -1
				if k >= 0 && k < len(at) {
					want = at[k]
				}
				if got := Select(b, k); got != want {
					t.Fatalf("Select(%v, %d): %d, not %d", b, k, got, want)
				}
			}
		}
	}
}

func TestNextAndLast(t *testing.T) {
	for _, n := range lens {
		for _, b := range rows(n) {
			at := places(tell(b))
			for _, i := range numbers(n) {
				next, last := -1, -1
				for _, p := range at {
					if p >= i && next == -1 {
						next = p
					}
					if p < i {
						last = p
					}
				}
				if got := Next(b, i); got != next {
					t.Fatalf("Next(%v, %d): %d, not %d", b, i, got, next)
				}
				if got := Last(b, i); got != last {
					t.Fatalf("Last(%v, %d): %d, not %d", b, i, got, last)
				}
			}
		}
	}
}

func TestEach(t *testing.T) {
	for _, n := range lens {
		for _, b := range rows(n) {
			if got, want := slices.Collect(Each(b)), places(tell(b)); !slices.Equal(got, want) {
				t.Fatalf("Each(%v): %v, not %v", b, got, want)
			}
		}
	}
}

// many has places in each of three words, their first and last ones among them.
func many() (api.Bits, []int) {
	want := []int{0, 1, 7, 62, 63, 64, 100, 127, 128, 150, 191}
	b, _ := Make(192, want)
	return b, want
}

func TestEachLeftEarlyAndBegunAgain(t *testing.T) {
	b, want := many()
	seq := Each(b)
	for stop := range want {
		var got []int
		for at := range seq {
			got = append(got, at)
			if len(got) == stop+1 {
				break
			}
		}
		if !slices.Equal(got, want[:stop+1]) {
			t.Errorf("left behind %d: %v", stop+1, got)
		}
		if got := slices.Collect(seq); !slices.Equal(got, want) {
			t.Errorf("begun again behind %d: %v", stop+1, got)
		}
	}
}

func TestEachWithinItself(t *testing.T) {
	b, want := many()
	seq := Each(b)
	var outer []int
	for at := range seq {
		if inner := slices.Collect(seq); !slices.Equal(inner, want) {
			t.Errorf("within the round at %d: %v", at, inner)
		}
		outer = append(outer, at)
	}
	if !slices.Equal(outer, want) {
		t.Errorf("around: %v", outer)
	}
}

func TestEachTwoRoundsInTurn(t *testing.T) {
	b, want := many()
	seq := Each(b)
	next, stop := iter.Pull(seq)
	defer stop()
	other, end := iter.Pull(seq)
	defer end()
	other()
	for i := range len(want) - 1 {
		at, is := next()
		if ahead, more := other(); !is || !more || at != want[i] || ahead != want[i+1] {
			t.Errorf("in turn: %d %v, %d %v", at, is, ahead, more)
		}
	}
}

// What Each shows was there when it was called, whatever the row becomes afterwards.
func TestEachOfARowThatIsWritten(t *testing.T) {
	b, want := many()
	before := Each(b)
	var got []int
	for at := range before {
		got = append(got, at)
		clear(b.Words)
	}
	if !slices.Equal(got, want) || !slices.Equal(slices.Collect(before), want) {
		t.Errorf("cleared on the way: %v", got)
	}
	bad := api.Bits{Len: 3, Words: []uint64{9}}
	nothing := Each(bad)
	bad.Words[0] = 1
	if got := slices.Collect(nothing); len(got) != 0 {
		t.Errorf("well shaped afterwards: %v", got)
	}
}

// P4.5

func TestNotOfNotAndMinusAndXor(t *testing.T) {
	for _, n := range lens {
		list := rows(n)
		for i, a := range list {
			not, e := Not(a)
			ok(t, not, e)
			back, e := Not(not)
			if ok(t, back, e); !same(back, a) {
				t.Fatalf("Not of Not(%v): %v", a, back)
			}
			for _, b := range list[i:] {
				checkJoins(t, a, b)
				checkJoins(t, b, a)
			}
		}
	}
}

func checkJoins(t *testing.T, a, b api.Bits) {
	t.Helper()
	and, e := And(a, b)
	ok(t, and, e)
	or, e := Or(a, b)
	ok(t, or, e)
	xor, e := Xor(a, b)
	ok(t, xor, e)
	minus, e := Minus(a, b)
	ok(t, minus, e)
	not, e := Not(b)
	ok(t, not, e)
	if c, e := And(a, not); e != api.OK || !same(c, minus) {
		t.Fatalf("Minus(%v, %v) is not And of Not", a, b)
	}
	if c, e := Minus(or, and); e != api.OK || !same(c, xor) {
		t.Fatalf("Xor(%v, %v) is not Or less And", a, b)
	}
	turned := []api.Bits{and, or, xor}
	for i, want := range turned {
		if c, e := joins[i].call(b, a); e != api.OK || !same(c, want) {
			t.Fatalf("%s(%v, %v) hangs on their order", joins[i].name, a, b)
		}
	}
	var both []int
	for at := range Each(a) {
		if Get(b, at) {
			both = append(both, at)
		}
	}
	if got := slices.Collect(Each(and)); !slices.Equal(got, both) {
		t.Fatalf("Each of And(%v, %v): %v, not %v", a, b, got, both)
	}
}

func TestCountsAndPlacesAnswerOneAnother(t *testing.T) {
	for _, n := range lens {
		for _, b := range rows(n) {
			for _, i := range numbers(n) {
				if below, on := Count(b, math.MinInt, i), Count(b, i, math.MaxInt); below+on != Count(b, 0, n) {
					t.Fatalf("%v at %d: %d and %d", b, i, below, on)
				}
				if i >= 0 && Select(b, Count(b, 0, i)) != Next(b, i) {
					t.Fatalf("%v: Next %d is not Select of the count", b, i)
				}
				if at := Last(b, i); at != -1 && Count(b, 0, at)+1 != Count(b, 0, i) {
					t.Fatalf("%v: below Last %d not one fewer", b, i)
				}
			}
			if made, e := Make(b.Len, slices.Collect(Each(b))); e != api.OK || !same(made, b) {
				t.Fatalf("Make of what Each tells of %v: %v, error %d", b, made, e)
			}
		}
	}
}

func TestPrefixIsUndone(t *testing.T) {
	for _, n := range lens {
		for _, b := range rows(n) {
			p, e := Prefix(b)
			ok(t, p, e)
			for i := range n {
				if Get(b, i) != (Get(p, i) != Get(p, i-1)) {
					t.Fatalf("Prefix(%v) at %d", b, i)
				}
			}
		}
	}
}

// Memory

// roomy: the row with room behind the end of its list, in which a writer would be seen.
func roomy(b api.Bits) (api.Bits, []uint64) {
	whole := append(slices.Clone(b.Words), 0xdead, 0xbeef)
	return api.Bits{Len: b.Len, Words: whole[:len(b.Words)]}, whole
}

func TestWhatComesInStays(t *testing.T) {
	for _, n := range lens {
		list := rows(n)
		for i := range list {
			a, roomA := roomy(list[i])
			b, roomB := roomy(list[(i+3)%len(list)])
			wasA, wasB := slices.Clone(roomA), slices.Clone(roomB)
			for _, j := range joins {
				j.call(a, b)
				j.call(a, a)
			}
			for _, c := range changes {
				c.call(a)
			}
			for range Each(a) {
			}
			_, _, _, _ = Formed(a), Get(a, 0), Count(a, 0, n), Select(a, 0)
			_, _ = Next(a, 0), Last(a, n)
			if !slices.Equal(roomA, wasA) || !slices.Equal(roomB, wasB) {
				t.Fatalf("Len %d: what came in was written", n)
			}
		}
	}
}

// scribble writes over an answer and the room behind it.
func scribble(b api.Bits) {
	whole := b.Words[:cap(b.Words)]
	for i := range whole {
		whole[i] = ^whole[i]
	}
}

func TestAnswersShareNothing(t *testing.T) {
	for _, n := range lens {
		list := rows(n)
		for i := range list {
			a, b := copied(list[i]), copied(list[(i+3)%len(list)])
			for _, j := range joins {
				c, _ := j.call(a, b)
				d, _ := j.call(a, b)
				want := copied(d)
				scribble(c)
				if !same(d, want) || !same(a, list[i]) || !same(b, list[(i+3)%len(list)]) {
					t.Fatalf("%s: an answer has memory in common", j.name)
				}
			}
			for _, f := range changes {
				c, _ := f.call(a)
				d, _ := f.call(a)
				want := copied(d)
				scribble(c)
				if !same(d, want) || !same(a, list[i]) {
					t.Fatalf("%s: an answer has memory in common", f.name)
				}
			}
		}
	}
	a, _ := Make(70, []int{3})
	b, _ := Make(70, []int{3})
	scribble(a)
	if !slices.Equal(b.Words, []uint64{8, 0}) {
		t.Error("Make: an answer has memory in common")
	}
}

func ExampleEach() {
	quotes, _ := Make(70, []int{0, 3, 64, 67})
	inside, _ := Prefix(quotes)
	for at := range Each(inside) {
		fmt.Print(at, " ")
	}
	fmt.Println()
	// Output:
	// 0 1 2 64 65 66
}
