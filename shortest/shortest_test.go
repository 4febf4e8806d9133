package shortest

import (
	"encoding/json"
	"errors"
	"fmt"
	"math"
	"math/big"
	"regexp"
	"strconv"
	"strings"
	"sync"
	"testing"

	"quarry/api"
	"quarry/decimal"
	"quarry/floats"
)

// The calls' exact types.
var (
	_ func(float64) (api.Decimal, api.Errno) = Digits
	_ func(float64) (string, api.Errno)      = Text
	_ func(string) (float64, api.Errno)      = Read
)

// The bits one step above those of the greatest float: they stand for 2^1024 here.
const end = 0x7ff << 52

var minusNought = math.Copysign(0, -1)

func d(sign, digits string, exp int) api.Decimal {
	return api.Decimal{Neg: sign == "-", Digits: digits, Exp: exp}
}

// turned: the same with the other sign.
func turned(x api.Decimal) api.Decimal {
	x.Neg = !x.Neg
	return x
}

func same(f, g float64) bool { return math.Float64bits(f) == math.Float64bits(g) }

// two: 2 to the power p.
func two(p int) *big.Rat { return raise(2, p).rat() }

// scale: a power, told as one whole number that multiplies or divides.
type scale struct {
	n    *big.Int
	down bool
}

func raise(n int64, p int) scale {
	return scale{new(big.Int).Exp(big.NewInt(n), big.NewInt(int64(max(p, -p))), nil), p < 0}
}

func (s scale) rat() *big.Rat {
	r := new(big.Rat).SetInt(s.n)
	if s.down {
		r.Inv(r)
	}
	return r
}

// worth: what the float with these bits is, which isn't below 0; of end 2^1024.
func worth(bits uint64) *big.Rat {
	if bits == end {
		return two(1024)
	}
	return new(big.Rat).SetFloat64(math.Float64frombits(bits))
}

// middles: halfway between a float above 0 and the next ones below and above it.
func middles(bits uint64) (low, high *big.Rat) {
	half := big.NewRat(1, 2)
	low = new(big.Rat).Add(worth(bits-1), worth(bits))
	high = new(big.Rat).Add(worth(bits), worth(bits+1))
	return low.Mul(low, half), high.Mul(high, half)
}

// whole: the greatest whole number that isn't above r.
func whole(r *big.Rat) *big.Int {
	return new(big.Int).Div(r.Num(), r.Denom()) // r isn't below 0
}

// candidate: a decimal that comes to a float, and how far it lies from it.
type candidate struct {
	d   api.Decimal
	off *big.Rat
}

// candidates: the chapter's own words: all decimals with n Digits that come to the float of these bits, which is above 0: those between the middles, and, if it is even, the middles themselves.
func candidates(bits uint64, n int) []candidate {
	low, high := middles(bits)
	f := worth(bits)
	about := int(math.Floor(math.Log2(math.Float64frombits(bits)) * math.Log10(2)))
	from := raise(10, n-1).n
	to := raise(10, n).n
	var list []candidate
	for exp := about - n; exp <= about-n+2; exp++ {
		unit := raise(10, exp).rat()
		x := whole(new(big.Rat).Quo(low, unit))
		if x.Cmp(from) < 0 {
			x.Set(from)
		}
		for ; x.Cmp(to) < 0; x.Add(x, big.NewInt(1)) {
			w := new(big.Rat).SetInt(x)
			w.Mul(w, unit)
			over, under := w.Cmp(high), w.Cmp(low)
			if over > 0 {
				break
			}
			digits := x.String()
			if under < 0 || bits%2 == 1 && (over == 0 || under == 0) || digits[n-1] == '0' {
				continue
			}
			off := new(big.Rat).Sub(w, f)
			list = append(list, candidate{api.Decimal{Digits: digits, Exp: exp}, off.Abs(off)})
		}
	}
	return list
}

// plain: what the chapter says of Digits of a finite float; and all decimals with as few Digits.
func plain(f float64) (api.Decimal, []candidate) {
	bits := math.Float64bits(f) &^ (1 << 63)
	if bits == 0 {
		return api.Decimal{Neg: math.Signbit(f)}, nil
	}
	n := 1
	list := candidates(bits, n)
	for len(list) == 0 {
		n++
		list = candidates(bits, n)
	}
	best := list[0]
	for _, c := range list[1:] {
		if x := c.off.Cmp(best.off); x < 0 || x == 0 && c.d.Digits[n-1]%2 == 0 {
			best = c
		}
	}
	best.d.Neg = math.Signbit(f)
	return best.d, list
}

// plainText: what the chapter says of Text, of a float whose shortest decimal is x.
func plainText(x api.Decimal) string {
	sign := ""
	if x.Neg {
		sign = "-"
	}
	if x.Digits == "" {
		return sign + "0"
	}
	n := len(x.Digits)
	p := x.Exp + n
	if n <= p && p <= 21 {
		return sign + x.Digits + strings.Repeat("0", p-n)
	}
	if 1 <= p && p <= 21 && p < n {
		return sign + x.Digits[:p] + "." + x.Digits[p:]
	}
	if -5 <= p && p <= 0 {
		return sign + "0." + strings.Repeat("0", 0-p) + x.Digits
	}
	s := sign + x.Digits[:1]
	if n > 1 {
		s += "." + x.Digits[1:]
	}
	return s + "e" + fmt.Sprint(p-1)
}

// library: the shortest decimal of a finite float, told by the language's own library.
func library(f float64) api.Decimal {
	m, e, _ := strings.Cut(strconv.FormatFloat(math.Abs(f), 'e', -1, 64), "e")
	digits := strings.TrimRight(strings.Replace(m, ".", "", 1), "0")
	x := api.Decimal{Neg: math.Signbit(f), Digits: digits}
	if digits != "" {
		p, _ := strconv.Atoi(e)
		x.Exp = p - len(digits) + 1
	}
	return x
}

// libraryText: a finite float's text, as the language's own library writes it in documents, but for a plus.
func libraryText(f float64) string {
	b, err := json.Marshal(f)
	if err != nil {
		panic(err)
	}
	return strings.Replace(string(b), "e+", "e", 1)
}

func sameDigits(t *testing.T, f float64, want api.Decimal) {
	t.Helper()
	if got, e := Digits(f); got != want || e != api.OK {
		t.Errorf("Digits(%x) = %v %d, not %v", math.Float64bits(f), got, e, want)
	}
}

func sameText(t *testing.T, f float64, want string) {
	t.Helper()
	if got, e := Text(f); got != want || e != api.OK {
		t.Errorf("Text(%x) = %q %d, not %q", math.Float64bits(f), got, e, want)
	}
}

func sameRead(t *testing.T, raw string, want float64, err api.Errno) {
	t.Helper()
	if got, e := Read(raw); !same(got, want) || e != err {
		if len(raw) > 60 {
			raw = raw[:60] + ".."
		}
		t.Errorf("Read(%q) = %x %d, not %x %d", raw, math.Float64bits(got), e, math.Float64bits(want), err)
	}
}

// check: holds a finite float's answers against the library's, and against what follows; both signs.
func check(t *testing.T, f float64) {
	t.Helper()
	for _, f := range []float64{f, -f} {
		x := library(f)
		sameDigits(t, f, x)
		sameDigits(t, -f, turned(x))
		if len(x.Digits) > 17 || !decimal.Formed(x) {
			t.Errorf("Digits(%x) = %v", math.Float64bits(f), x)
		}
		if g, e := floats.Of(x); !same(g, f) || e != api.OK {
			t.Errorf("Digits(%x) = %v comes to %x %d", math.Float64bits(f), x, math.Float64bits(g), e)
		}
		text := libraryText(f)
		sameText(t, f, text)
		sameText(t, f, plainText(x))
		sameRead(t, text, f, api.OK)
	}
}

// checkPlain: likewise, and against the chapter's own words; the decimals with the fewest Digits.
func checkPlain(t *testing.T, f float64) []candidate {
	t.Helper()
	check(t, f)
	x, list := plain(f)
	sameDigits(t, f, x)
	for _, c := range list {
		if g, e := floats.Of(c.d); !same(g, math.Abs(f)) || e != api.OK {
			t.Fatal("the test is wrong:", f, c.d, g, e)
		}
	}
	return list
}

// rule: a fixed row of numbers.
type rule uint64

func (r *rule) word() uint64 {
	*r = *r*6364136223846793005 + 1442695040888963407
	x := uint64(*r)
	x ^= x >> 29
	x *= 0xbf58476d1ce4e5b9
	return x ^ x>>32
}

func (r *rule) next(n int) int { return int(r.word() >> 1 % uint64(n)) }

// finite: any finite float above 0.
func (r *rule) finite() float64 {
	for {
		if x := r.word() &^ (1 << 63); x > 0 && x < end {
			return math.Float64frombits(x)
		}
	}
}

// about: a float from 2^p on, below 2^(p+1); p isn't so low that it is no normal one.
func (r *rule) about(p int) float64 {
	return math.Float64frombits(uint64(p+1023)<<52 | r.word()>>12)
}

// number: a number's text, of at most so many digits ahead of a point and behind it, with an exponent of at most so much.
func (r *rule) number(digits, exp int) string {
	var b strings.Builder
	if r.next(2) == 0 {
		b.WriteByte('-')
	}
	row := func(n int) {
		for range n {
			b.WriteByte(byte('0' + r.next(10)))
		}
	}
	if r.next(4) == 0 {
		b.WriteByte('0')
	} else {
		b.WriteByte(byte('1' + r.next(9)))
		row(r.next(digits))
	}
	if r.next(3) > 0 {
		b.WriteByte('.')
		row(1 + r.next(digits))
	}
	if r.next(3) > 0 {
		b.WriteString([]string{"e", "E", "e+", "E-", "e-"}[r.next(5)])
		b.WriteString(strconv.Itoa(r.next(exp + 1)))
	}
	return b.String()
}

func TestExamplesDigits(t *testing.T) {
	half := 9007199254740993.0 // the float is 9007199254740992
	for _, x := range []struct {
		f float64
		d api.Decimal
	}{
		{0.1, d("", "1", -1)}, {0.5, d("", "5", -1)}, {-2, d("-", "2", 0)}, {100, d("", "1", 2)}, {1.0 / 3, d("", "3333333333333333", -16)}, {half, d("", "9007199254740992", 0)}, {5e-324, d("", "5", -324)}, {math.MaxFloat64, d("", "17976931348623157", 292)}, {minusNought, d("-", "", 0)}, {1 << 60, d("", "1152921504606847", 3)},
	} {
		sameDigits(t, x.f, x.d)
	}
}

func TestExamplesText(t *testing.T) {
	for _, x := range []struct {
		f float64
		s string
	}{
		{100, "100"}, {1e21, "1e21"}, {1e20, "100000000000000000000"}, {123456789012345680000, "123456789012345680000"}, {0.000001, "0.000001"}, {1e-7, "1e-7"}, {1.5, "1.5"}, {-1.25e-9, "-1.25e-9"}, {minusNought, "-0"}, {123e25, "1.23e27"},
	} {
		sameText(t, x.f, x.s)
	}
	if s, e := Text(math.NaN()); s != "" || e != api.ErrNaN {
		t.Error(s, e)
	}
}

func TestExamplesRead(t *testing.T) {
	tenth, fifth := 0.1, 0.2
	for _, x := range []struct {
		raw string
		f   float64
		e   api.Errno
	}{
		{"1e400", 0, api.ErrOver}, {"1e-400", 0, api.OK}, {"-1e-400", minusNought, api.OK}, {"1e1073741825", 0, api.ErrBig}, {"0x1", 0, api.ErrNumber}, {"", 0, api.ErrNumber}, {"0.30000000000000004", tenth + fifth, api.OK},
	} {
		sameRead(t, x.raw, x.f, x.e)
	}
}

// TestExamplesWhole: the document's own: a tenth, and the float above it.
func TestExamplesWhole(t *testing.T) {
	sameText(t, 0.1, "0.1")
	sameText(t, math.Nextafter(0.1, 1), "0.10000000000000002")
}

// TestNotFinite: whatever the bits of a NaN are.
func TestNotFinite(t *testing.T) {
	for _, bits := range []uint64{end, end | 1<<63, end + 1, end + 1 | 1<<63, end | 1<<51, end | 1<<51 | 1<<63, math.MaxUint64, 1<<63 - 1, math.Float64bits(math.NaN()), math.Float64bits(math.Inf(1)), math.Float64bits(math.Inf(-1))} {
		f := math.Float64frombits(bits)
		if x, e := Digits(f); x != (api.Decimal{}) || e != api.ErrNaN {
			t.Errorf("Digits(%x) = %v %d", bits, x, e)
		}
		if s, e := Text(f); s != "" || e != api.ErrNaN {
			t.Errorf("Text(%x) = %q %d", bits, s, e)
		}
	}
}

// TestNoughts: both, with their signs.
func TestNoughts(t *testing.T) {
	sameDigits(t, 0, d("", "", 0))
	sameDigits(t, minusNought, d("-", "", 0))
	sameText(t, 0, "0")
	sameText(t, minusNought, "-0")
	for _, raw := range []string{"0", "0.0", "0e5", "0E-5", "0.000e+99999999999999999999", "0e1073741825", "0e-1073741825", "0.0e99999999999999999999999"} {
		sameRead(t, raw, 0, api.OK)
		sameRead(t, "-"+raw, minusNought, api.OK)
	}
}

// TestLeast: the least floats, of which a single digit tells several.
func TestLeast(t *testing.T) {
	for _, x := range []struct {
		bits uint64
		d    api.Decimal
		few  int // so many decimals have as few Digits
	}{
		{1, d("", "5", -324), 5}, {2, d("", "1", -323), 3}, {3, d("", "15", -324), 5}, {4, d("", "2", -323), 1}, {5, d("", "25", -324), 5}, {6, d("", "3", -323), 1}, {7, d("", "35", -324), 5}, {8, d("", "4", -323), 1}, {20, d("", "1", -322), 1}, {21, d("", "104", -324), 5}, {1<<52 - 1, d("", "2225073858507201", -323), 1}, {1 << 52, d("", "22250738585072014", -324), 5},
	} {
		f := math.Float64frombits(x.bits)
		sameDigits(t, f, x.d)
		if list := checkPlain(t, f); len(list) != x.few {
			t.Error(x, list)
		}
	}
	for bits := uint64(1); bits < 300; bits++ {
		checkPlain(t, math.Float64frombits(bits))
	}
	r := rule(141)
	for range 300 {
		checkPlain(t, math.Float64frombits(1+r.word()>>12>>r.next(52)))
	}
}

// TestBounds: at the bound to the normal floats, and at the greatest one.
func TestBounds(t *testing.T) {
	for off := uint64(0); off < 40; off++ {
		for _, bits := range []uint64{1<<52 - off, 1<<52 + off, 2<<52 - off, 2<<52 + off, end - 1 - off, end - 1<<52 - off, end - 1<<52 + off} {
			checkPlain(t, math.Float64frombits(bits))
		}
	}
	sameText(t, math.MaxFloat64, "1.7976931348623157e308")
	sameText(t, -math.MaxFloat64, "-1.7976931348623157e308")
	sameText(t, 5e-324, "5e-324")
	sameText(t, 2.2250738585072014e-308, "2.2250738585072014e-308")
	sameText(t, 2.225073858507201e-308, "2.225073858507201e-308")
}

// TestPowersOfTwo: each of them, and the floats next to it. Of some the decimal below is nearer, but comes to the float below.
func TestPowersOfTwo(t *testing.T) {
	step := 1
	if testing.Short() {
		step = 7
	}
	for p := -1074; p < 1024; p++ {
		f := math.Ldexp(1, p)
		check(t, f)
		check(t, math.Nextafter(f, 0))
		check(t, math.Nextafter(f, math.Inf(1)))
		if (p+1074)%step == 0 {
			checkPlain(t, f)
		}
	}
}

// TestFartherOne: powers of two of which the nearest decimal of so few Digits is no decimal of theirs, and one that is farther away is.
func TestFartherOne(t *testing.T) {
	for _, x := range []struct {
		p      int
		digits string
		exp    int
		nearer string
	}{
		{-1017, "7120236347223045", -322, "7120236347223044"}, {-791, "7678447687145631", -254, "7678447687145630"}, {-44, "5684341886080802", -29, "5684341886080801"}, {89, "6189700196426902", 11, "6189700196426901"}, {863, "6150157786156811", 244, "6150157786156810"}, {976, "6386688990511104", 278, "6386688990511103"},
	} {
		f := math.Ldexp(1, x.p)
		sameDigits(t, f, d("", x.digits, x.exp))
		sameDigits(t, -f, d("-", x.digits, x.exp))
		checkPlain(t, f)
		off := func(digits string) *big.Rat {
			r, _ := new(big.Rat).SetString(digits + "e" + strconv.Itoa(x.exp))
			return r.Abs(r.Sub(r, new(big.Rat).SetFloat64(f)))
		}
		if off(x.nearer).Cmp(off(x.digits)) >= 0 {
			t.Error("the test is wrong: not nearer:", x)
		}
	}
}

// TestEvenOne: floats of which two decimals are as near: the one whose last digit is even.
func TestEvenOne(t *testing.T) {
	for _, x := range []struct {
		f      float64
		digits string
		exp    int
	}{
		{1<<50 + 0.25, "11258999068426242", -1}, {1<<50 + 0.75, "11258999068426248", -1}, {1<<50 + 1.25, "11258999068426252", -1}, {1<<50 + 1.75, "11258999068426258", -1}, {1<<49 + 0.25, "5629499534213122", -1}, {1<<49 + 0.75, "5629499534213128", -1}, {1<<47 + 0.125, "14073748835532812", -2}, {1<<47 + 0.375, "14073748835532838", -2}, {1<<47 + 0.625, "14073748835532862", -2}, {1<<47 + 0.875, "14073748835532888", -2}, {1<<46 + 0.125, "7036874417766412", -2},
	} {
		sameDigits(t, x.f, d("", x.digits, x.exp))
		sameDigits(t, -x.f, d("-", x.digits, x.exp))
	}
	even := 0
	r := rule(142)
	for p := 36; p < 51; p++ {
		for range 60 {
			part := math.Ldexp(1, max(1, 50-p)+1)
			f := math.Floor(r.about(p)) + float64(2*r.next(int(part)/2)+1)/part
			list := checkPlain(t, f)
			for i, a := range list {
				for _, b := range list[i+1:] {
					if x, _ := Digits(f); a.off.Cmp(b.off) == 0 && (x == a.d || x == b.d) {
						even++
					}
				}
			}
		}
	}
	if even < 100 {
		t.Error("too few of which two are as near:", even)
	}
}

// TestOddOne: two are as near, and the one whose last digit is even comes to the float below a power of two: it isn't one of its decimals.
func TestOddOne(t *testing.T) {
	f := math.Ldexp(1, -24)
	if exact, e := floats.Exact(f); exact != d("", "59604644775390625", -24) || e != api.OK {
		t.Fatal("the test is wrong:", exact, e)
	}
	sameDigits(t, f, d("", "5960464477539063", -23))
	sameText(t, -f, "-5.960464477539063e-8")
	if list := checkPlain(t, f); len(list) != 1 {
		t.Error(list)
	}
	sameDigits(t, math.Nextafter(f, 0), d("", "5960464477539062", -23))
}

// TestNearest: of several with the fewest Digits the nearest one, be it below or above.
func TestNearest(t *testing.T) {
	r := rule(143)
	several, most := 0, 0
	for range 1500 {
		list := checkPlain(t, r.finite())
		if len(list) > 1 {
			several++
		}
		most = max(most, len(list))
	}
	if several < 300 || most < 4 {
		t.Error("too few of which several have the fewest:", several, most)
	}
}

// TestMiddles: a middle itself is a decimal of the even float next to it, and none of the other's.
func TestMiddles(t *testing.T) {
	for _, x := range []struct {
		f      float64
		digits string
		exp    int
	}{
		{18014398509481992, "1801439850948199", 1}, {18014398509481988, "18014398509481988", 0}, {18014398509482008, "1801439850948201", 1}, {18014398509482012, "18014398509482012", 0}, {9007199254740992, "9007199254740992", 0}, {9007199254740994, "9007199254740994", 0},
	} {
		sameDigits(t, x.f, d("", x.digits, x.exp))
		sameDigits(t, -x.f, d("-", x.digits, x.exp))
		checkPlain(t, x.f)
	}
	even, odd := 0, 0
	// All these are the middles of two floats that lie 4, 8 or 16 from one another, with a nought or two at the end.
	for n := uint64(0); n < 200; n++ {
		for p := range 3 {
			step := uint64(4) << p
			mid := (1<<54)<<p + step*5*(2*n+1) + step/2
			for mid%10 != 0 {
				mid += step
			}
			low := float64(mid - step/2)
			x, e := decimal.Of(strconv.FormatUint(mid, 10))
			f, e2 := floats.Of(x)
			if e != api.OK || e2 != api.OK || uint64(f) == mid {
				t.Fatal("the test is wrong:", mid, f)
			}
			other := float64(mid + step/2)
			if f == other {
				other = low
			}
			checkPlain(t, f)
			checkPlain(t, other)
			if got, _ := Digits(f); got == x {
				even++
			}
			if got, _ := Digits(other); got == x {
				odd++
			}
		}
	}
	if even < 300 || odd != 0 {
		t.Error("middles that are the shortest:", even, odd)
	}
}

// TestHowMany: floats whose shortest decimal has 1, 15, 16 and 17 Digits, and all between.
func TestHowMany(t *testing.T) {
	// As few Digits as 15 always come back, of normal floats.
	digits := "123456789123456"
	for n := 1; n <= len(digits); n++ {
		for p := -307; p <= 308; p++ {
			x := d("", digits[:n], p-n)
			f, e := floats.Of(x)
			if e != api.OK {
				t.Fatal("the test is wrong:", x, e)
			}
			sameDigits(t, f, x)
			sameDigits(t, -f, turned(x))
		}
	}
	for _, x := range []struct {
		f float64
		n int
	}{
		{1, 1}, {0.1, 1}, {7e200, 1}, {1e23, 1}, {9e-300, 1}, {1e22, 1}, {5e-324, 1}, {123456789012345, 15}, {0.123456789012345, 15}, {1.23456789012345e-200, 15}, {1.0 / 3, 16}, {4503599627370497, 16}, {0.1234567890123456, 16}, {0.1 + 0.7 - 0.2 - 0.6 + 1, 1}, {math.Pi, 16}, {0.10000000000000002, 17}, {5.0 / 3 * 1e-9, 17}, {12345678901234568, 17}, {1.7976931348623157e308, 17}, {2.2250738585072014e-308, 17},
	} {
		got, e := Digits(x.f)
		if len(got.Digits) != x.n || e != api.OK {
			t.Error(x, got, e)
		}
		checkPlain(t, x.f)
	}
}

// TestPlaces: Text at every place of the point where its form changes, with one digit and with many.
func TestPlaces(t *testing.T) {
	for _, x := range []struct {
		f float64
		s string
	}{
		// p = 21 and 22
		{1e20, "100000000000000000000"}, {9e20, "900000000000000000000"}, {1.2e20, "120000000000000000000"}, {123456789012345680000, "123456789012345680000"}, {999999999999999900000, "999999999999999900000"}, {999999999999999868928, "999999999999999900000"},
		{1e21, "1e21"}, {9e21, "9e21"}, {1.2e21, "1.2e21"}, {1.2345678901234568e21, "1.2345678901234568e21"},
		// p = n and n - 1
		{7, "7"}, {12, "12"}, {123456789, "123456789"}, {12345678901234568, "12345678901234568"}, {1.5, "1.5"}, {12.5, "12.5"}, {12345678.9, "12345678.9"}, {1234567890123456.8, "1234567890123456.8"}, {70, "70"}, {1200, "1200"}, {12345678901234568000, "12345678901234567000"},
		// p = 1
		{3, "3"}, {3.25, "3.25"}, {1.2345678901234567, "1.2345678901234567"},
		// p = 0
		{0.3, "0.3"}, {0.25, "0.25"}, {0.12345678901234568, "0.12345678901234568"}, {0.05, "0.05"},
		// p = -5 and -6
		{1e-6, "0.000001"}, {9e-6, "0.000009"}, {1.25e-6, "0.00000125"}, {1.2345678901234567e-6, "0.0000012345678901234567"}, {9.999999999999997e-7, "9.999999999999997e-7"},
		{1e-7, "1e-7"}, {9e-7, "9e-7"}, {1.25e-7, "1.25e-7"}, {1.2345678901234568e-7, "1.2345678901234568e-7"},
		{1e100, "1e100"}, {1e-100, "1e-100"}, {1e99, "1e99"}, {1.5e300, "1.5e300"}, {-1.5e-300, "-1.5e-300"}, {1e-10, "1e-10"}, {1e-9, "1e-9"},
		{-1e20, "-100000000000000000000"}, {-1e21, "-1e21"}, {-0.25, "-0.25"}, {-1e-6, "-0.000001"}, {-1e-7, "-1e-7"}, {-7, "-7"}, {-12.5, "-12.5"},
	} {
		sameText(t, x.f, x.s)
		sameRead(t, x.s, x.f, api.OK)
	}
	for _, digits := range []string{"1", "9", "12", "99", "123456789012345", "999999999999999", "5000000000000001"} {
		for p := -10; p <= 26; p++ {
			x := d("", digits, p-len(digits))
			f, e := floats.Of(x)
			if e != api.OK {
				t.Fatal(x, e)
			}
			if got, _ := Digits(f); got != x {
				continue
			}
			sameText(t, f, plainText(x))
			sameText(t, -f, "-"+plainText(x))
			sameText(t, f, libraryText(f))
		}
	}
}

func TestPowersOfTen(t *testing.T) {
	for p := -324; p <= 308; p++ {
		f, err := strconv.ParseFloat("1e"+strconv.Itoa(p), 64)
		if err != nil {
			t.Fatal(err)
		}
		check(t, f)
		check(t, math.Nextafter(f, 0))
		check(t, math.Nextafter(f, math.Inf(1)))
		if f > 0 {
			sameDigits(t, f, d("", "1", p))
		}
	}
}

// TestSmallNumbers: all whole numbers up to some thousands, and hundredths of them.
func TestSmallNumbers(t *testing.T) {
	for n := range 3000 {
		check(t, float64(n))
		check(t, float64(n)/100)
		sameText(t, float64(n), strconv.Itoa(n))
	}
}

func TestLibrary(t *testing.T) {
	r := rule(144)
	for range 4000 {
		check(t, r.finite())
		check(t, r.about(r.next(120)-60))
	}
	for range 1000 {
		check(t, math.Float64frombits(1+r.word()>>12))
		check(t, float64(r.word()>>r.next(64)))
	}
}

// TestReadWrong: texts that are no numbers, also where they begin with something too great.
func TestReadWrong(t *testing.T) {
	for _, raw := range []string{"", " ", "-", "+", "+1", "01", "-01", "00", "1.", ".5", "-.5", "1e", "1e+", "1E-", "1.e5", " 1", "1 ", "1\n", "\t1", "0x1", "0X1p4", "1_000", "NaN", "nan", "Inf", "-Inf", "+Inf", "Infinity", "infinity", "1,5", "1.5.2", "1e5.5", "1e5e5", "--1", "1-", "1e--5", "null", "true", "\"1\"", "[1]", "1\x00", "\x00", "١", "１", "1\xff", "0b1", "0o7", "1f", "1d", "1e400x", "1e1073741825x", "1e1073741825 ", "-1e400,", "1e99999999999999999999.", "−1", "1e1073741825e", strings.Repeat("9", 5000) + "x", strings.Repeat("9", 5000) + "."} {
		sameRead(t, raw, 0, api.ErrNumber)
	}
	for _, raw := range []string{"1e1073741825", "-1e1073741825", "10e1073741824", "1e-1073741825", "-1e-1073741825", "0.1e-1073741824", "1E+1073741825", "1.5e-1073741824", "1e99999999999999999999", "1e-99999999999999999999", "-7e18446744073709551616", "7e-18446744073709551617", "1" + strings.Repeat("0", 5000) + "e1073741820"} {
		sameRead(t, raw, 0, api.ErrBig)
	}
	for _, raw := range []string{"1e400", "-1e400", "1e309", "1.8e308", "17976931348623159e292", "-17976931348623159e292", "1.7976931348623159e308", "1e1073741824", "-1E+1073741824", strings.Repeat("9", 400), "0.1e310", "1" + strings.Repeat("0", 309) + ".5", strings.Repeat("7", 5000) + "e-4000"} {
		sameRead(t, raw, 0, api.ErrOver)
	}
	for _, raw := range []string{"1e-400", "1e-324", "2e-324", "2.4703282292062327e-324", "1e-1073741824", "0.1e-1073741823", "123456789e-1073741824", "0." + strings.Repeat("0", 400) + "1", "0." + strings.Repeat("0", 5000) + "7E-3"} {
		sameRead(t, raw, 0, api.OK)
		sameRead(t, "-"+raw, minusNought, api.OK)
	}
}

// TestReadLong: thousands of digits, of which the last one may tell.
func TestReadLong(t *testing.T) {
	for _, n := range []int{1, 100, 700, 768, 800, 3000, 70000} {
		noughts := strings.Repeat("0", n)
		sameRead(t, "9007199254740993."+noughts, 9007199254740992, api.OK)
		sameRead(t, "9007199254740993."+noughts+"1", 9007199254740994, api.OK)
		sameRead(t, "-9007199254740992."+strings.Repeat("9", n), -9007199254740992, api.OK)
		sameRead(t, "0.3"+noughts, 0.3, api.OK)
		sameRead(t, "1"+noughts+"e-"+strconv.Itoa(n), 1, api.OK)
		sameRead(t, "0."+noughts+"1e"+strconv.Itoa(n), 0.1, api.OK)
		sameRead(t, "-0."+noughts+"25E+"+strconv.Itoa(n+1), -2.5, api.OK)
	}
	mid, e := floats.Between(2.2250738585072011e-308)
	if e != api.OK || len(mid.Digits) != 768 {
		t.Fatal("the test is wrong:", len(mid.Digits))
	}
	text, _ := decimal.Text(mid)
	sameRead(t, text, math.Float64frombits(1<<52), api.OK)
	sameRead(t, "0."+mid.Digits+"e"+strconv.Itoa(mid.Exp+768), math.Float64frombits(1<<52), api.OK)
	below := mid.Digits[:767] + "4" + strings.Repeat("9", 4000)
	sameRead(t, "0."+below+"e"+strconv.Itoa(mid.Exp+768), math.Float64frombits(1<<52-1), api.OK)
}

var number = regexp.MustCompile(`\A-?(0|[1-9][0-9]*)(\.[0-9]+)?([eE][+-]?[0-9]+)?\z`)

// checkRead: holds Read of a text with a small exponent against the language's own library; and the Digits of what is read against those that were written.
func checkRead(t *testing.T, raw string) {
	t.Helper()
	if !number.MatchString(raw) {
		sameRead(t, raw, 0, api.ErrNumber)
		return
	}
	f, err := strconv.ParseFloat(raw, 64)
	if errors.Is(err, strconv.ErrRange) {
		sameRead(t, raw, 0, api.ErrOver)
		return
	}
	sameRead(t, raw, f, api.OK)
	x, _ := Digits(f)
	was, e := decimal.Of(raw)
	if e != api.OK || len(x.Digits) > len(was.Digits) {
		t.Errorf("%q has the digits %v, and what it comes to %v", raw, was, x)
	}
}

func TestReadLibrary(t *testing.T) {
	r := rule(145)
	for range 3000 {
		checkRead(t, r.number(20, 20))
		checkRead(t, r.number(8, 330))
		checkRead(t, r.number(30, 5))
	}
	for range 200 {
		checkRead(t, r.number(700, 300))
	}
	bytes := "0123456789-+.eE x"
	for range 20000 {
		b := make([]byte, r.next(6))
		for i := range b {
			b[i] = bytes[r.next(len(bytes))]
		}
		checkRead(t, string(b))
	}
}

// TestAsFew: of every number of at most four digits what comes back has no more of them.
func TestAsFew(t *testing.T) {
	for n := range 10000 {
		for _, exp := range []int{-326, -324, -310, -5, 0, 19, 300} {
			if exp != -5 && n%37 != 0 {
				continue
			}
			checkRead(t, strconv.Itoa(n)+"e"+strconv.Itoa(exp))
			checkRead(t, "-"+strconv.Itoa(n)+"e"+strconv.Itoa(exp))
		}
	}
}

// edge: floats of all sorts.
func edge() []float64 {
	return []float64{0, minusNought, 5e-324, -5e-324, 2.2250738585072014e-308, 2.225073858507201e-308, 0.1, 1.0 / 3, 100, -2, 1e21, 1e-7, 1 << 60, math.Ldexp(1, -44), math.Ldexp(1, -24), 1<<50 + 0.25, math.MaxFloat64, -math.MaxFloat64, math.NaN(), math.Inf(1), math.Inf(-1), 1e23}
}

type answers struct {
	d    api.Decimal
	text string
	read float64
	e    [3]api.Errno
}

func ask(f float64) (a answers) {
	a.d, a.e[0] = Digits(f)
	a.text, a.e[1] = Text(f)
	a.read, a.e[2] = Read(a.text)
	return a
}

// TestSameAgain: the same question is answered the same again, whoever else asks.
func TestSameAgain(t *testing.T) {
	want := map[uint64]answers{}
	for _, f := range edge() {
		want[math.Float64bits(f)] = ask(f)
	}
	var group sync.WaitGroup
	for shift := range 16 {
		group.Go(func() {
			list := edge()
			for i := range 10 * len(list) {
				f := list[(i+shift)%len(list)]
				if got := ask(f); got != want[math.Float64bits(f)] {
					t.Error(f, got)
				}
			}
		})
	}
	group.Wait()
}

// TestReadGreat: an exponent at its bound, that so many digits bring back.
func TestReadGreat(t *testing.T) {
	if testing.Short() {
		t.Skip("a text of 1 GiB")
	}
	var b strings.Builder
	b.Grow(1<<30 + 64)
	b.WriteString("-0.")
	some := strings.Repeat("0", 1<<20)
	for range 1 << 10 {
		b.WriteString(some)
	}
	b.WriteString("25e1073741826")
	sameRead(t, b.String(), -25, api.OK)
}

func ExampleDigits() {
	x, err := Digits(0.1 + 1.0/8)
	fmt.Println(x.Digits, x.Exp, err)
	_, err = Digits(math.Inf(1))
	fmt.Println(err == api.ErrNaN)
	// Output:
	// 225 -3 0
	// true
}

func ExampleText() {
	for _, f := range []float64{1e20, 1e21, -0.25, 1.0 / 3} {
		s, _ := Text(f)
		fmt.Println(s)
	}
	// Output:
	// 100000000000000000000
	// 1e21
	// -0.25
	// 0.3333333333333333
}

func ExampleRead() {
	f, err := Read("-12.50")
	fmt.Println(f, err)
	_, err = Read("1e400")
	fmt.Println(err == api.ErrOver)
	// Output:
	// -12.5 0
	// true
}
