package floats

import (
	"cmp"
	"errors"
	"fmt"
	"math"
	"math/big"
	"regexp"
	"slices"
	"sort"
	"strconv"
	"strings"
	"sync"
	"testing"

	"quarry/api"
	"quarry/decimal"
)

// The calls' exact types.
var (
	_ func(api.Decimal) (float64, api.Errno) = Of
	_ func(api.Decimal) (float32, api.Errno) = Of32
	_ func(float64) (api.Decimal, api.Errno) = Exact
	_ func(float64) (api.Decimal, api.Errno) = Between
)

// The bits one step above those of the greatest float: they stand for 2^1024 and 2^128 here.
const (
	end64 = 0x7ff << 52
	end32 = 0xff << 23
)

var minusNought = math.Copysign(0, -1)

func d(sign, digits string, exp int) api.Decimal {
	return api.Decimal{Neg: sign == "-", Digits: digits, Exp: exp}
}

// turned: the same with the other sign.
func turned(x api.Decimal) api.Decimal {
	x.Neg = !x.Neg
	return x
}

func show(x api.Decimal) string {
	if len(x.Digits) > 60 {
		return fmt.Sprintf("%v %.60q.. (%d) %d", x.Neg, x.Digits, len(x.Digits), x.Exp)
	}
	return fmt.Sprintf("%v %q %d", x.Neg, x.Digits, x.Exp)
}

func rat(s string) *big.Rat {
	r, ok := new(big.Rat).SetString(s)
	if !ok {
		panic("no number: " + s)
	}
	return r
}

func text(x api.Decimal) string {
	s := x.Digits
	if s == "" {
		s = "0"
	}
	if x.Neg {
		s = "-" + s
	}
	return s + "e" + strconv.Itoa(x.Exp)
}

// plainRat: a well shaped decimal's worth. Only for small exponents.
func plainRat(x api.Decimal) *big.Rat { return rat(text(x)) }

// two: 2 to the power p.
func two(p int) *big.Rat {
	n := new(big.Rat).SetInt(new(big.Int).Lsh(big.NewInt(1), uint(max(p, -p))))
	if p < 0 {
		n.Inv(n)
	}
	return n
}

// shaped: the digits of a well shaped decimal other than 0.
var shaped = regexp.MustCompile(`\A[1-9]([0-9]*[1-9])?\z`)

func isShaped(x api.Decimal) bool {
	if x.Digits == "" {
		return x.Exp == 0
	}
	return shaped.MatchString(x.Digits) && x.Exp >= -1073741824 && x.Exp <= 1073741824
}

// worth64, worth32: the worth of the float with these bits; of end64 and end32 that of the power of two behind the greatest one.
func worth64(bits uint64) *big.Rat {
	if bits == end64 {
		return two(1024)
	}
	return new(big.Rat).SetFloat64(math.Float64frombits(bits))
}

func worth32(bits uint64) *big.Rat {
	if bits == end32 {
		return two(128)
	}
	return new(big.Rat).SetFloat64(float64(math.Float32frombits(uint32(bits))))
}

// plainNearest: the chapter's own words: of the worths from 0 to that of end the nearest one; of two the even one.
func plainNearest(w *big.Rat, end uint64, worth func(uint64) *big.Rat) uint64 {
	above := uint64(sort.Search(int(end), func(i int) bool { return worth(uint64(i)).Cmp(w) >= 0 }))
	if above == 0 || worth(above).Cmp(w) < 0 {
		return above
	}
	up := new(big.Rat).Sub(worth(above), w)
	down := new(big.Rat).Sub(w, worth(above-1))
	switch c := up.Cmp(down); {
	case c < 0 || c == 0 && above%2 == 0:
		return above
	}
	return above - 1
}

// plain64, plain32: what the chapter says of Of and of Of32. Only for small exponents.
func plain64(x api.Decimal) (uint64, api.Errno) {
	x, sign := signless(x)
	bits := plainNearest(plainRat(x), end64, worth64)
	if bits == end64 {
		return 0, api.ErrOver
	}
	return sign<<63 | bits, api.OK
}

func plain32(x api.Decimal) (uint32, api.Errno) {
	x, sign := signless(x)
	bits := plainNearest(plainRat(x), end32, worth32)
	if bits == end32 {
		return 0, api.ErrOver
	}
	return uint32(sign<<31 | bits), api.OK
}

func signless(x api.Decimal) (api.Decimal, uint64) {
	if x.Neg {
		return turned(x), 1
	}
	return x, 0
}

func same64(t *testing.T, x api.Decimal, bits uint64, want api.Errno) {
	t.Helper()
	if f, e := Of(x); math.Float64bits(f) != bits || e != want {
		t.Errorf("Of(%s) = %x %d, not %x %d", show(x), math.Float64bits(f), e, bits, want)
	}
}

func same32(t *testing.T, x api.Decimal, bits uint32, want api.Errno) {
	t.Helper()
	if f, e := Of32(x); math.Float32bits(f) != bits || e != want {
		t.Errorf("Of32(%s) = %x %d, not %x %d", show(x), math.Float32bits(f), e, bits, want)
	}
}

// both64, both32: of a decimal that isn't below 0, and of the one below 0.
func both64(t *testing.T, x api.Decimal, bits uint64, want api.Errno) {
	t.Helper()
	same64(t, x, bits, want)
	if want == api.OK {
		bits |= 1 << 63
	}
	same64(t, turned(x), bits, want)
}

func both32(t *testing.T, x api.Decimal, bits uint32, want api.Errno) {
	t.Helper()
	same32(t, x, bits, want)
	if want == api.OK {
		bits |= 1 << 31
	}
	same32(t, turned(x), bits, want)
}

// checkPlain: holds Of and Of32 against the chapter's own words.
func checkPlain(t *testing.T, x api.Decimal) {
	t.Helper()
	bits, e := plain64(x)
	same64(t, x, bits, e)
	short, e := plain32(x)
	same32(t, x, short, e)
}

// checkLibrary: holds Of and Of32 against the language's own library. It is asked with a point behind the first digit: of over 800 digits without a point it loses count.
func checkLibrary(t *testing.T, x api.Decimal) {
	t.Helper()
	raw := text(x)
	if n := len(x.Digits); n > 1 {
		raw = map[bool]string{true: "-"}[x.Neg] + x.Digits[:1] + "." + x.Digits[1:] + "e" + strconv.Itoa(x.Exp+n-1)
	}
	f, err := strconv.ParseFloat(raw, 64)
	if errors.Is(err, strconv.ErrRange) {
		same64(t, x, 0, api.ErrOver)
	} else {
		same64(t, x, math.Float64bits(f), api.OK)
	}
	g, err := strconv.ParseFloat(raw, 32)
	if errors.Is(err, strconv.ErrRange) {
		same32(t, x, 0, api.ErrOver)
	} else {
		same32(t, x, math.Float32bits(float32(g)), api.OK)
	}
}

// exact: the decimal of a worth that has one, told by the language's own library.
func exact(w *big.Rat) api.Decimal {
	places, ok := w.FloatPrec()
	if !ok {
		panic("no decimal: " + w.String())
	}
	raw := new(big.Rat).Abs(w).FloatString(places)
	all := strings.TrimLeft(strings.Replace(raw, ".", "", 1), "0")
	digits := strings.TrimRight(all, "0")
	x := api.Decimal{Neg: w.Sign() < 0, Digits: digits}
	if digits != "" {
		x.Exp = len(all) - len(digits) - places
	}
	return x
}

// more: a decimal one digit above another one in size, so many places behind its last digit; less: one below it, of nothing but 9 there.
func more(x api.Decimal, places int) api.Decimal {
	return api.Decimal{Neg: x.Neg, Digits: x.Digits + strings.Repeat("0", places-1) + "1", Exp: x.Exp - places}
}

func less(x api.Decimal, places int) api.Decimal {
	b := []byte(x.Digits) // the last digit isn't 0
	b[len(b)-1]--
	digits := strings.TrimLeft(string(b), "0") + strings.Repeat("9", places)
	return api.Decimal{Neg: x.Neg, Digits: digits, Exp: x.Exp - places}
}

// rule: a fixed row of numbers.
type rule uint64

func (r *rule) word() uint64 {
	*r = *r*6364136223846793005 + 1442695040888963407
	x := uint64(*r)
	x ^= x >> 29
	x *= 0xbf58476d1ce4e5b9
	return x ^ x>>32
}

func (r *rule) next(n int) int { return int(r.word() >> 1 % uint64(n)) }

// decimal: a well shaped one of at most n Digits whose first one stands at a power of ten from least to most.
func (r *rule) decimal(n, least, most int) api.Decimal {
	b := make([]byte, 1+r.next(n))
	for i := range b {
		b[i] = byte('0' + r.next(10))
	}
	b[0], b[len(b)-1] = byte('1'+r.next(9)), byte('1'+r.next(9))
	return api.Decimal{Neg: r.next(2) == 0, Digits: string(b), Exp: least + r.next(most-least+1) - len(b) + 1}
}

// finite: the bits of a finite float64; of either sign.
func (r *rule) finite() uint64 {
	for {
		if x := r.word(); x&(1<<63-1) < end64 {
			return x
		}
	}
}

// bits64: the bits, without a sign, of floats at the edges: the least ones, the bounds between powers of two, the greatest ones, ordinary ones.
func bits64() []uint64 {
	list := []uint64{0, 1, 2, 3, 4, 5, 7, 8, 9, 1<<52 - 3, 1<<52 - 2, 1<<52 - 1, 1 << 52, 1<<52 + 1, 1<<52 + 2, 2<<52 - 1, 2 << 52, 2<<52 + 1, 1 << 51, 1 << 20, 0x5555555555555, 0xaaaaaaaaaaaaa, end64 - 1, end64 - 2, end64 - 3, end64 - 1<<52, end64 - 1<<52 - 1, end64 - 1<<52 + 1}
	for p := 3; p < 0x7ff; p += 61 {
		list = append(list, uint64(p)<<52-1, uint64(p)<<52, uint64(p)<<52+1)
	}
	for _, f := range []float64{1, 0.5, 0.1, 0.3, 1.5, 2, 3, 7, 10, 100, 1e15, 1e16, 1e21, 1e22, 1e23, 1e-5, 1e-7, 123456.789, math.Pi, 1 << 53, 1<<53 - 1, 1<<53 + 2, 1 << 63, 1 << 64, math.MaxFloat32, math.SmallestNonzeroFloat32, 1e100, 1e-100, 1e300, 1e-300} {
		x := math.Float64bits(f)
		list = append(list, x-1, x, x+1)
	}
	return list
}

// bits32: likewise of float32s.
func bits32() []uint64 {
	list := []uint64{0, 1, 2, 3, 4, 5, 1<<23 - 2, 1<<23 - 1, 1 << 23, 1<<23 + 1, 2<<23 - 1, 2 << 23, 2<<23 + 1, 1 << 22, 0x555555, end32 - 1, end32 - 2, end32 - 3, end32 - 1<<23, end32 - 1<<23 - 1, end32 - 1<<23 + 1}
	for p := 3; p < 0xff; p += 9 {
		list = append(list, uint64(p)<<23-1, uint64(p)<<23, uint64(p)<<23+1)
	}
	for _, f := range []float32{1, 0.5, 0.1, 0.3, 1.5, 3, 10, 1e9, 1e10, 1e11, 1e-5, 16777216, 16777215, 16777218, 3.14159} {
		x := uint64(math.Float32bits(f))
		list = append(list, x-1, x, x+1)
	}
	return list
}

func middle(a, b *big.Rat) *big.Rat {
	m := new(big.Rat).Add(a, b)
	return m.Quo(m, rat("2"))
}

// odd: decimals that aren't well shaped; some are far too great.
var odd = []api.Decimal{
	d("", "10", 0), d("", "05", 0), d("", "0", 0), d("-", "0", 0), d("", "00", 0), d("", "1 ", 0), d("", "1a", 0), d("", "a", 0), d("", "a1", 0), d("", "1a1", 0), d("", "-1", 0), d("", "+1", 0), d("", "1.5", 0), d("", "1e5", 0), d("", "1/1", 0), d("", "1:1", 0), d("", "1\x001", 0), d("", "\xff", 0), d("", "1é1", 0), d("", "١", 0), d("", "1_1", 0), d("", "NaN", 0), d("", "Inf", 0), d("", "0x1", 0),
	d("", "", 1), d("", "", -1), d("-", "", 1), d("", "", 400), d("", "", 1<<30), d("", "", math.MaxInt), d("-", "", math.MinInt),
	d("", "1", 1<<30+1), d("", "1", -1<<30-1), d("-", "1", 1<<30+1), d("", "1", 1<<32), d("", "1", -1<<32), d("", "7", math.MaxInt), d("-", "7", math.MinInt), d("", "77", math.MaxInt),
	d("", "10", 400), d("-", "10", 400), d("", "05", 400), d("", "1a", 400), d("", "10", 1<<30), d("", "x", 1<<30), d("", "10", -400), d("", "1a", -1<<30), d("", "10", 1<<30+1),
	d("", strings.Repeat("1", 900)+"0", 0), d("", strings.Repeat("1", 900)+"x1", 0), d("", "0"+strings.Repeat("1", 900), 0), d("", strings.Repeat("1", 900)+"0", 400), d("", strings.Repeat("1", 900)+"x", 400), d("", strings.Repeat("1", 900)+"0", -2000), d("", strings.Repeat("1", 900), 1<<30+1), d("", strings.Repeat("1", 900), -1<<30-1),
}

func TestExamplesOf(t *testing.T) {
	for _, x := range []struct {
		d    api.Decimal
		bits uint64
		e    api.Errno
	}{
		{d("", "1", 0), math.Float64bits(1), api.OK}, {d("", "5", -1), math.Float64bits(0.5), api.OK}, {d("", "1", -1), 0x3fb999999999999a, api.OK}, {d("-", "", 0), 1 << 63, api.OK}, {d("", "", 0), 0, api.OK}, {d("", "10", 0), 0, api.ErrShape},
		{d("", "9007199254740993", 0), math.Float64bits(9007199254740992), api.OK}, {d("", "9007199254740995", 0), math.Float64bits(9007199254740996), api.OK}, {d("", "90071992547409930000000000000000001", -19), math.Float64bits(9007199254740994), api.OK},
		{d("", "1", 400), 0, api.ErrOver}, {d("", "1", 1073741824), 0, api.ErrOver}, {d("", "17976931348623157", 292), 0x7fefffffffffffff, api.OK}, {d("", "17976931348623158", 292), 0x7fefffffffffffff, api.OK}, {d("", "17976931348623159", 292), 0, api.ErrOver},
		{d("", "1", -400), 0, api.OK}, {d("-", "1", -400), 1 << 63, api.OK}, {d("", "5", -324), 1, api.OK}, {d("", "2", -324), 0, api.OK}, {d("", "3", -324), 1, api.OK},
	} {
		same64(t, x.d, x.bits, x.e)
	}
}

func TestExamplesOf32(t *testing.T) {
	same32(t, d("", "1", -1), 0x3dcccccd, api.OK)
	same32(t, d("", "16777217", 0), math.Float32bits(16777216), api.OK)
	same32(t, d("", "16777217000000001", -9), math.Float32bits(16777218), api.OK)
	same32(t, d("", "1", 39), 0, api.ErrOver)
	if f, e := Of(d("", "16777217000000001", -9)); float32(f) != 16777216 || e != api.OK {
		t.Error(f, e)
	}
}

func TestExamplesExact(t *testing.T) {
	tenth, _ := Of(d("", "1", -1))
	for _, x := range []struct {
		f float64
		d api.Decimal
		e api.Errno
	}{
		{0.5, d("", "5", -1), api.OK}, {tenth, d("", "1000000000000000055511151231257827021181583404541015625", -55), api.OK}, {1 << 70, d("", "1180591620717411303424", 0), api.OK}, {minusNought, d("-", "", 0), api.OK}, {math.NaN(), api.Decimal{}, api.ErrNaN},
	} {
		if got, e := Exact(x.f); got != x.d || e != x.e {
			t.Error(x, got, e)
		}
	}
}

func TestExamplesBetween(t *testing.T) {
	for _, x := range []struct {
		f float64
		d api.Decimal
	}{
		{1, d("", "100000000000000011102230246251565404236316680908203125", -53)}, {-1, d("-", "999999999999999944488848768742172978818416595458984375", -54)},
		{0, exact(two(-1075))}, {minusNought, exact(two(-1075))}, {-math.SmallestNonzeroFloat64, turned(exact(two(-1075)))},
		{math.MaxFloat64, exact(new(big.Rat).Sub(two(1024), two(970)))},
	} {
		if got, e := Between(x.f); got != x.d || e != api.OK {
			t.Error(x, show(got), e)
		}
	}
}

// TestShape: ErrShape, also of decimals that would be too great.
func TestShape(t *testing.T) {
	for _, x := range odd {
		if isShaped(x) {
			t.Fatal("the test is wrong:", show(x))
		}
		same64(t, x, 0, api.ErrShape)
		same32(t, x, 0, api.ErrShape)
		same64(t, turned(x), 0, api.ErrShape)
		same32(t, turned(x), 0, api.ErrShape)
	}
	for x := range 256 {
		one := string([]byte{byte(x)})
		for _, digits := range []string{one, one + "5", "5" + one, "5" + one + "5"} {
			for _, exp := range []int{-400, 0, 400} {
				x := d("", digits, exp)
				if isShaped(x) {
					checkPlain(t, x)
					continue
				}
				same64(t, x, 0, api.ErrShape)
				same32(t, x, 0, api.ErrShape)
			}
		}
	}
}

// TestNoughts: both of them, and the sign of what is too small.
func TestNoughts(t *testing.T) {
	both64(t, d("", "", 0), 0, api.OK)
	both32(t, d("", "", 0), 0, api.OK)
	nines := strings.Repeat("9", 5000)
	for _, x := range []api.Decimal{d("", "2", -324), d("", "1", -324), d("", "9", -325), d("", "1", -340), d("", "1", -341), d("", "1", -342), d("", "1", -400), d("", "1", -5000), d("", "123456789", -1<<29), d("", "1", -1<<30), d("", "9", -1<<30), d("", nines, -5324), d("", nines, -1<<30), d("", nines, -5340), d("", nines, -5341), d("", nines, -6000)} {
		both64(t, x, 0, api.OK)
		both32(t, x, 0, api.OK)
	}
	for _, x := range []api.Decimal{d("", "7", -46), d("", "1", -46), d("", "1", -100), d("", "1", -300), d("", nines, -5046)} {
		both32(t, x, 0, api.OK)
	}
}

// checkMiddle: a decimal just in the middle of the floats of the bits low and low + 1 comes to the even one, one that is a little greater to the one above, one that is a little less to the one below.
func checkMiddle(t *testing.T, mid api.Decimal, low, end uint64, both func(x api.Decimal, bits uint64, e api.Errno)) {
	t.Helper()
	near := func(x api.Decimal, bits uint64) {
		t.Helper()
		if !isShaped(x) {
			t.Fatal("the test is wrong:", show(x))
		}
		if bits == end {
			both(x, 0, api.ErrOver)
			return
		}
		both(x, bits, api.OK)
	}
	near(mid, low+low%2)
	for _, places := range []int{1, 2, 24, 768 - len(mid.Digits), 769 - len(mid.Digits), 770 - len(mid.Digits), 800, 3000} {
		if places < 1 || len(mid.Digits)+places < 24 {
			continue // a digit that stands so far ahead tells another float
		}
		near(more(mid, places), low+1)
		near(less(mid, places), low)
	}
}

func TestMiddles(t *testing.T) {
	most := 0
	for _, low := range bits64() {
		mid := exact(middle(worth64(low), worth64(low+1)))
		most = max(most, len(mid.Digits))
		checkMiddle(t, mid, low, end64, func(x api.Decimal, bits uint64, e api.Errno) {
			t.Helper()
			both64(t, x, bits, e)
		})
	}
	if most != 768 {
		t.Error("the middle with the most digits of all isn't among them:", most)
	}
}

func TestMiddles32(t *testing.T) {
	for _, low := range bits32() {
		mid := exact(middle(worth32(low), worth32(low+1)))
		checkMiddle(t, mid, low, end32, func(x api.Decimal, bits uint64, e api.Errno) {
			t.Helper()
			both32(t, x, uint32(bits), e)
		})
	}
}

// TestLeast: the least floats, half of the least one, and what lies about that.
func TestLeast(t *testing.T) {
	half := exact(two(-1075))
	both64(t, half, 0, api.OK)
	both64(t, more(half, 1), 1, api.OK)
	both64(t, more(half, 4000), 1, api.OK)
	both64(t, less(half, 4000), 0, api.OK)
	both64(t, exact(two(-1074)), 1, api.OK)
	both64(t, exact(two(-1073)), 2, api.OK)
	both64(t, exact(new(big.Rat).Mul(two(-1075), rat("3"))), 2, api.OK)
	both64(t, exact(new(big.Rat).Mul(two(-1075), rat("5"))), 2, api.OK)
	both64(t, exact(new(big.Rat).Mul(two(-1075), rat("7"))), 4, api.OK)
	both64(t, exact(two(-1076)), 0, api.OK)
	both64(t, exact(new(big.Rat).Mul(two(-1077), rat("3"))), 0, api.OK)
	both64(t, d("", "24703282292062327", -340), 0, api.OK)
	both64(t, d("", "24703282292062328", -340), 1, api.OK)
	half = exact(two(-150))
	both32(t, half, 0, api.OK)
	both32(t, more(half, 1), 1, api.OK)
	both32(t, more(half, 4000), 1, api.OK)
	both32(t, less(half, 4000), 0, api.OK)
	both32(t, exact(two(-149)), 1, api.OK)
	both32(t, exact(new(big.Rat).Mul(two(-150), rat("3"))), 2, api.OK)
	both32(t, exact(two(-151)), 0, api.OK)
}

// TestBoundToNormal: the greatest float that isn't normal, the least normal one, and their middle.
func TestBoundToNormal(t *testing.T) {
	both64(t, d("", "22250738585072011", -324), 0x000fffffffffffff, api.OK)
	both64(t, d("", "22250738585072014", -324), 0x0010000000000000, api.OK)
	both64(t, exact(two(-1022)), 1<<52, api.OK)
	both64(t, exact(new(big.Rat).Sub(two(-1022), two(-1074))), 1<<52-1, api.OK)
	both64(t, exact(new(big.Rat).Add(two(-1022), two(-1074))), 1<<52+1, api.OK)
	mid := exact(new(big.Rat).Sub(two(-1022), two(-1075)))
	both64(t, mid, 1<<52, api.OK)
	both64(t, less(mid, 2000), 1<<52-1, api.OK)
	both32(t, exact(two(-126)), 1<<23, api.OK)
	both32(t, exact(new(big.Rat).Sub(two(-126), two(-149))), 1<<23-1, api.OK)
	mid = exact(new(big.Rat).Sub(two(-126), two(-150)))
	both32(t, mid, 1<<23, api.OK)
	both32(t, less(mid, 2000), 1<<23-1, api.OK)
}

// TestGreatest: the greatest float, the middle between it and the power of two behind it, and what lies about that.
func TestGreatest(t *testing.T) {
	both64(t, exact(new(big.Rat).Sub(two(1024), two(971))), end64-1, api.OK)
	mid := exact(new(big.Rat).Sub(two(1024), two(970)))
	both64(t, mid, 0, api.ErrOver)
	both64(t, exact(two(1024)), 0, api.ErrOver)
	both64(t, exact(new(big.Rat).Add(two(1024), two(970))), 0, api.ErrOver)
	for _, places := range []int{1, 100, 459, 460, 461, 3000} {
		both64(t, less(mid, places), end64-1, api.OK)
		both64(t, more(mid, places), 0, api.ErrOver)
	}
	both32(t, exact(new(big.Rat).Sub(two(128), two(104))), end32-1, api.OK)
	mid = exact(new(big.Rat).Sub(two(128), two(103)))
	both32(t, mid, 0, api.ErrOver)
	both32(t, exact(two(128)), 0, api.ErrOver)
	for _, places := range []int{1, 100, 729, 730, 731, 3000} {
		both32(t, less(mid, places), end32-1, api.OK)
		both32(t, more(mid, places), 0, api.ErrOver)
	}
}

// TestOver: what is far beyond, with few Digits and with many.
func TestOver(t *testing.T) {
	nines := strings.Repeat("9", 5000)
	for _, x := range []api.Decimal{d("", "18", 307), d("", "1", 309), d("", "1", 310), d("", "1", 339), d("", "1", 340), d("", "1", 341), d("", "1", 400), d("", "1", 5000), d("", "1", 1<<29), d("", "1", 1<<30), d("", "9", 1<<30), d("", nines, 0), d("", nines, 1<<30), d("", nines, -4690), d("", nines, -4691), d("", nines, -4659), d("", nines, -4660)} {
		both64(t, x, 0, api.ErrOver)
		both32(t, x, 0, api.ErrOver)
	}
	for _, x := range []api.Decimal{d("", "1", 39), d("", "1", 100), d("", "1", 308), d("", nines, -4961)} {
		both32(t, x, 0, api.ErrOver)
	}
}

// TestExponents: every exponent at which something may happen, and those next to the bounds.
func TestExponents(t *testing.T) {
	many := "7" + strings.Repeat("0123456789", 90) + "3"
	for exp := -420; exp <= 420; exp++ {
		for _, digits := range []string{"1", "2", "3", "5", "9", "17", "12345678901234567", "99999999999999999999"} {
			x := d("", digits, exp-len(digits)+1)
			checkLibrary(t, x)
			checkLibrary(t, turned(x))
		}
		checkLibrary(t, d("", many, exp-len(many)+1))
	}
	for _, digits := range []string{"1", "5", "99", "12345678901234567", many} {
		for off := range 4 {
			both64(t, d("", digits, 1<<30-off), 0, api.ErrOver)
			both32(t, d("", digits, 1<<30-off), 0, api.ErrOver)
			both64(t, d("", digits, -1<<30+off), 0, api.OK)
			both32(t, d("", digits, -1<<30+off), 0, api.OK)
		}
	}
}

// great: so many noughts between two texts.
func great(ahead string, noughts int, behind string) string {
	var b strings.Builder
	b.Grow(len(ahead) + noughts + len(behind))
	b.WriteString(ahead)
	for some := strings.Repeat("0", 1<<16); noughts > 0; noughts -= len(some) {
		b.WriteString(some[:min(noughts, len(some))])
	}
	b.WriteString(behind)
	return b.String()
}

// TestBoundWithDigits: so many Digits that an exponent at its bound tells an ordinary number.
func TestBoundWithDigits(t *testing.T) {
	if testing.Short() {
		t.Skip("a text of 1 GiB")
	}
	digits := great("9007199254740993", 1<<30-1, "1")
	same64(t, d("", digits, -1<<30), math.Float64bits(9007199254740994), api.OK)
	same32(t, d("-", digits, -1<<30), math.Float32bits(-9007199254740992), api.OK)
	same64(t, d("", digits, -1<<30+300), 0, api.ErrOver)
}

// TestPowersOfTwo: about a power of two, where the floats below lie half as far away as those above.
func TestPowersOfTwo(t *testing.T) {
	about := func(p, off int) api.Decimal { return exact(new(big.Rat).Add(two(p), two(off))) }
	under := func(p, off int) api.Decimal { return exact(new(big.Rat).Sub(two(p), two(off))) }
	for p := -1021; p < 1024; p++ {
		bits := uint64(p+1023) << 52
		both64(t, exact(two(p)), bits, api.OK)
		both64(t, under(p, p-53), bits-1, api.OK)
		both64(t, under(p, p-54), bits, api.OK)
		both64(t, less(under(p, p-54), 1), bits-1, api.OK)
		both64(t, under(p, p-55), bits, api.OK)
		both64(t, about(p, p-54), bits, api.OK)
		both64(t, about(p, p-53), bits, api.OK)
		both64(t, more(about(p, p-53), 1), bits+1, api.OK)
		both64(t, about(p, p-52), bits+1, api.OK)
	}
	for p := -1074; p < -1021; p++ {
		both64(t, exact(two(p)), 1<<(p+1074), api.OK)
	}
	for p := -125; p < 128; p++ {
		bits := uint32(p+127) << 23
		both32(t, exact(two(p)), bits, api.OK)
		both32(t, under(p, p-24), bits-1, api.OK)
		both32(t, under(p, p-25), bits, api.OK)
		both32(t, less(under(p, p-25), 1), bits-1, api.OK)
		both32(t, about(p, p-24), bits, api.OK)
		both32(t, more(about(p, p-24), 1), bits+1, api.OK)
		both32(t, about(p, p-23), bits+1, api.OK)
	}
	for p := -149; p < -125; p++ {
		both32(t, exact(two(p)), 1<<(p+149), api.OK)
	}
}

func TestPowersOfTen(t *testing.T) {
	for p := -400; p <= 400; p++ {
		checkLibrary(t, d("", "1", p))
		checkLibrary(t, d("", "1"+strings.Repeat("0", 900)+"1", p-901))
		checkLibrary(t, d("", strings.Repeat("9", 900), p-900))
	}
}

// TestPlain: decimals of all sizes, few Digits and many, against the chapter's own words.
func TestPlain(t *testing.T) {
	r := rule(131)
	for range 1500 {
		checkPlain(t, r.decimal(25, -340, 320))
		checkPlain(t, r.decimal(20, -60, 50))
	}
	for range 60 {
		checkPlain(t, r.decimal(1200, -330, 310))
		checkPlain(t, r.decimal(1200, -50, 40))
	}
}

// TestLibrary: many more, against the language's own library.
func TestLibrary(t *testing.T) {
	r := rule(132)
	for range 20000 {
		checkLibrary(t, r.decimal(22, -345, 315))
		checkLibrary(t, r.decimal(22, -50, 42))
		checkLibrary(t, r.decimal(20, 0, 25))
	}
	for range 1500 {
		checkLibrary(t, r.decimal(1000, -330, 310))
		checkLibrary(t, r.decimal(5000, -330, 310))
		checkLibrary(t, r.decimal(1000, -50, 42))
	}
}

// TestSmallNumbers: all numbers of three digits, at some powers of ten.
func TestSmallNumbers(t *testing.T) {
	for n := 1; n < 1000; n++ {
		digits := strings.TrimRight(strconv.Itoa(n), "0")
		for _, exp := range []int{-326, -325, -324, -323, -310, -48, -47, -46, -45, -3, -1, 0, 1, 15, 16, 22, 35, 36, 37, 38, 305, 306, 307, 308} {
			checkLibrary(t, d("", digits, exp))
		}
	}
}

// TestShortByItself: a float64 between would be a middle of two float32s and come to the wrong one.
func TestShortByItself(t *testing.T) {
	twice := 0
	for _, low := range bits32() {
		mid := exact(middle(worth32(low), worth32(low+1)))
		for _, x := range []struct {
			d    api.Decimal
			bits uint64
		}{{more(mid, 30), low + 1}, {less(mid, 30), low}} {
			if x.bits == end32 {
				both32(t, x.d, 0, api.ErrOver)
				continue
			}
			both32(t, x.d, uint32(x.bits), api.OK)
			if f, e := Of(x.d); e != api.OK {
				t.Error(show(x.d), e)
			} else if math.Float32bits(float32(f)) != uint32(x.bits) {
				twice++
			}
		}
	}
	if twice < len(bits32())/2 {
		t.Error("too few that would come to another float:", twice)
	}
}

// TestNotFinite: whatever the bits of a NaN are.
func TestNotFinite(t *testing.T) {
	for _, bits := range []uint64{end64, end64 | 1<<63, end64 + 1, end64 + 1 | 1<<63, end64 | 1<<51, end64 | 1<<51 | 1<<63, math.MaxUint64, 1<<63 - 1, math.Float64bits(math.NaN())} {
		f := math.Float64frombits(bits)
		if x, e := Exact(f); x != (api.Decimal{}) || e != api.ErrNaN {
			t.Errorf("Exact(%x) = %v %d", bits, x, e)
		}
		if x, e := Between(f); x != (api.Decimal{}) || e != api.ErrNaN {
			t.Errorf("Between(%x) = %v %d", bits, x, e)
		}
	}
}

// plainAbove: the next one above, by the chapter's words.
func plainAbove(f float64) *big.Rat {
	if f == math.MaxFloat64 {
		return two(1024)
	}
	return new(big.Rat).SetFloat64(math.Nextafter(f, math.Inf(1)))
}

// checkFloat: holds all that is promised of a finite float.
func checkFloat(t *testing.T, bits uint64) {
	t.Helper()
	f := math.Float64frombits(bits)
	w := new(big.Rat).SetFloat64(f)
	x, e := Exact(f)
	if e != api.OK || !isShaped(x) || plainRat(x).Cmp(w) != 0 || x.Neg != math.Signbit(f) {
		t.Errorf("Exact(%x) = %s %d", bits, show(x), e)
		return
	}
	same64(t, x, bits, api.OK)
	y, e := Between(f)
	if mid := middle(w, plainAbove(f)); e != api.OK || !isShaped(y) || plainRat(y).Cmp(mid) != 0 {
		t.Errorf("Between(%x) = %s %d", bits, show(y), e)
		return
	}
	checkEven(t, f, y)
	checkWithin(t, f, x, y)
}

// checkEven: the middle comes to the even one of a float and the next one above.
func checkEven(t *testing.T, f float64, mid api.Decimal) {
	t.Helper()
	bits := math.Float64bits(f)
	if bits%2 == 1 {
		bits = math.Float64bits(math.Nextafter(f, math.Inf(1)))
	}
	if math.Float64frombits(bits) == 0 {
		bits = 0
		if mid.Neg {
			bits = 1 << 63
		}
	}
	if bits == end64 {
		same64(t, mid, 0, api.ErrOver)
		return
	}
	same64(t, mid, bits, api.OK)
}

// checkWithin: decimals between a float and the middle above it come to that float.
func checkWithin(t *testing.T, f float64, x, mid api.Decimal) {
	t.Helper()
	want := math.Float64bits(f)
	a, b := plainRat(x), plainRat(mid)
	for _, part := range []string{"1/2", "1/1024", "1023/1024", "1/1048576", "1048575/1048576"} {
		way := new(big.Rat).Sub(b, a)
		way.Mul(way, rat(part))
		in := exact(way.Add(way, a))
		if f == 0 {
			want = 0 // of either nought it is a decimal above 0
		}
		same64(t, in, want, api.OK)
	}
	if f >= 0 {
		same64(t, less(mid, 1500), want, api.OK)
	} else {
		same64(t, more(mid, 1500), want, api.OK)
	}
}

func TestFloats(t *testing.T) {
	for _, bits := range bits64() {
		checkFloat(t, bits)
		checkFloat(t, bits|1<<63)
	}
	r := rule(133)
	for range 300 {
		checkFloat(t, r.finite())
	}
	for range 100 {
		checkFloat(t, r.finite()>>11)                                         // near the least ones, and not normal
		checkFloat(t, r.finite()&(1<<63|1<<52-1)|uint64(1023+r.next(60))<<52) // ordinary ones
	}
}

// TestThereAndBack: many more floats, and what is as true of the float32s.
func TestThereAndBack(t *testing.T) {
	r := rule(134)
	back := func(bits uint64) {
		x, e := Exact(math.Float64frombits(bits))
		if e != api.OK || !isShaped(x) {
			t.Error(bits, show(x), e)
		}
		same64(t, x, bits, api.OK)
	}
	for range 8000 {
		back(r.finite())
		back(math.Float64bits(float64(int64(r.word()))))
		back(math.Float64bits(float64(int64(r.word())>>20) / 1000))
	}
	for range 20000 {
		bits := uint32(r.word())
		f := math.Float32frombits(bits)
		x, e := Exact(float64(f))
		if bits&(1<<31-1) >= end32 {
			if x != (api.Decimal{}) || e != api.ErrNaN {
				t.Error(bits, show(x), e)
			}
			continue
		}
		if e != api.OK {
			t.Error(bits, e)
		}
		same32(t, x, bits, api.OK)
	}
	for _, bits := range bits32() {
		x, e := Exact(float64(math.Float32frombits(uint32(bits))))
		if e != api.OK {
			t.Error(bits, e)
		}
		both32(t, x, uint32(bits), api.OK)
	}
}

// rank: where a float stands among all: the noughts are the same; too great ones stand at the ends.
func rank(t *testing.T, x api.Decimal) float64 {
	t.Helper()
	f, e := Of(x)
	if e == api.OK {
		return f
	}
	if e != api.ErrOver {
		t.Error(show(x), e)
	}
	if x.Neg {
		return math.Inf(-1)
	}
	return math.Inf(1)
}

func rank32(t *testing.T, x api.Decimal) float32 {
	t.Helper()
	f, e := Of32(x)
	if e == api.OK {
		return f
	}
	if e != api.ErrOver {
		t.Error(show(x), e)
	}
	if x.Neg {
		return float32(math.Inf(-1))
	}
	return float32(math.Inf(1))
}

// TestOrder: of two decimals the one whose worth isn't below the other's has no lesser float.
func TestOrder(t *testing.T) {
	r := rule(135)
	list := []api.Decimal{d("", "", 0), d("-", "", 0), d("", "1", 1<<30), d("-", "1", 1<<30), d("", "1", -1<<30), d("-", "1", -1<<30)}
	for range 2500 {
		list = append(list, r.decimal(30, -345, 315), r.decimal(30, -2, 2), r.decimal(3, -326, -320), r.decimal(3, 306, 310))
	}
	for _, bits := range bits64() {
		x := exact(middle(worth64(bits), worth64(bits+1)))
		list = append(list, x, more(x, 1), more(x, 500), less(x, 1), less(x, 500), turned(x), turned(more(x, 500)), turned(less(x, 500)))
	}
	slices.SortFunc(list, func(a, b api.Decimal) int {
		n, e := decimal.Cmp(a, b)
		if e != api.OK {
			t.Fatal(show(a), show(b), e)
		}
		return n
	})
	for i := 1; i < len(list); i++ {
		a, b := list[i-1], list[i]
		if cmp.Compare(rank(t, a), rank(t, b)) > 0 || cmp.Compare(rank32(t, a), rank32(t, b)) > 0 {
			t.Error(show(a), show(b))
		}
	}
}

// TestManyDigits: numbers of more and more Digits that come nearer and nearer to a float.
func TestManyDigits(t *testing.T) {
	x, e := Exact(0.1)
	if e != api.OK {
		t.Fatal(e)
	}
	bits := math.Float64bits(0.1)
	for _, places := range []int{1, 10, 100, 700, 767, 768, 769, 1000, 10000, 100000} {
		both64(t, more(x, places), bits, api.OK)
		both64(t, less(x, places), bits, api.OK)
		both64(t, d("", "1"+strings.Repeat("0", 20+places)+"1", -places-22), bits, api.OK)
		both64(t, d("", strings.Repeat("9", 20+places), -places-21), bits, api.OK)
	}
}

// TestManyCallers: the same question is answered the same again, whatever else runs.
func TestManyCallers(t *testing.T) {
	var wait sync.WaitGroup
	for range 8 {
		wait.Go(func() {
			r := rule(7)
			for range 500 {
				x := r.decimal(40, -330, 310)
				checkLibrary(t, x)
				f, e := Of(x)
				g, again := Of(d(map[bool]string{true: "-"}[x.Neg], strings.Clone(x.Digits), x.Exp))
				if math.Float64bits(f) != math.Float64bits(g) || e != again {
					t.Error(show(x), f, e, g, again)
				}
				bits := r.finite()
				f = math.Float64frombits(bits)
				a, _ := Exact(f)
				b, _ := Exact(f)
				if a != b || plainRat(a).Cmp(new(big.Rat).SetFloat64(f)) != 0 {
					t.Error(bits, show(a), show(b))
				}
				a, _ = Between(f)
				b, _ = Between(f)
				if a != b || plainRat(a).Cmp(middle(new(big.Rat).SetFloat64(f), plainAbove(f))) != 0 {
					t.Error(bits, show(a), show(b))
				}
			}
		})
	}
	wait.Wait()
}

func ExampleOf() {
	fmt.Println(Of(api.Decimal{Digits: "15", Exp: -1}))
	_, e := Of(api.Decimal{Digits: "1", Exp: 400})
	fmt.Println(e == api.ErrOver)
	// Output:
	// 1.5 0
	// true
}

func ExampleExact() {
	fmt.Println(Exact(-0.375))
	// Output: {true 375 -3} 0
}

func ExampleBetween() {
	fmt.Println(Between(1 << 53))
	// Output: {false 9007199254740993 0} 0
}
