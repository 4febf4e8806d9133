package whole

import (
	"fmt"
	"math"
	"math/big"
	"regexp"
	"slices"
	"strconv"
	"strings"
	"sync"
	"testing"

	"quarry/api"
	"quarry/decimal"
)

// The calls' exact types.
var (
	_ func(string) (int, api.Errno)    = Int[int]
	_ func(string) (ownI16, api.Errno) = Int[ownI16]
	_ func(string) (uint, api.Errno)   = Uint[uint]
	_ func(string) (ownU64, api.Errno) = Uint[ownU64]
	_ func(int8) string                = Text[int8]
	_ func(ownU32) string              = Text[ownU32]
)

// Types that a caller makes of each of the language's own.
type (
	ownI   int
	ownI8  int8
	ownI16 int16
	ownI32 int32
	ownI64 int64
	ownU   uint
	ownU8  uint8
	ownU16 uint16
	ownU32 uint32
	ownU64 uint64
)

// String: a type's own way to tell itself changes nothing.
func (n ownI8) String() string { return "own" }

// form: a number's text, by the chapter's words; plain: one with neither a point nor an e or E.
var (
	form  = regexp.MustCompile(`\A-?(0|[1-9][0-9]*)(\.[0-9]+)?([eE][+-]?[0-9]+)?\z`)
	plain = regexp.MustCompile(`\A-?(0|[1-9][0-9]*)\z`)
)

// width: a type, its bounds, and the calls of it, told in integers of any size.
type width struct {
	name        string
	least, most *big.Int
	read        func(raw string) (*big.Int, api.Errno)
	text        func(n *big.Int) string
}

func signed[T Signed](least, most string) width {
	return width{fmt.Sprintf("%T", T(0)), integer(least), integer(most),
		func(raw string) (*big.Int, api.Errno) {
			n, e := Int[T](raw)
			return big.NewInt(int64(n)), e
		},
		func(n *big.Int) string { return Text(T(n.Int64())) },
	}
}

func unsigned[T Unsigned](most string) width {
	return width{fmt.Sprintf("%T", T(0)), integer("0"), integer(most),
		func(raw string) (*big.Int, api.Errno) {
			n, e := Uint[T](raw)
			return new(big.Int).SetUint64(uint64(n)), e
		},
		func(n *big.Int) string { return Text(T(n.Uint64())) },
	}
}

// widths: every type of the language's, and one of a caller's made of each.
var widths = []width{
	signed[int8]("-128", "127"), signed[ownI8]("-128", "127"),
	signed[int16]("-32768", "32767"), signed[ownI16]("-32768", "32767"),
	signed[int32]("-2147483648", "2147483647"), signed[ownI32]("-2147483648", "2147483647"),
	signed[int64]("-9223372036854775808", "9223372036854775807"), signed[ownI64]("-9223372036854775808", "9223372036854775807"),
	signed[int]("-9223372036854775808", "9223372036854775807"), signed[ownI]("-9223372036854775808", "9223372036854775807"),
	unsigned[uint8]("255"), unsigned[ownU8]("255"),
	unsigned[uint16]("65535"), unsigned[ownU16]("65535"),
	unsigned[uint32]("4294967295"), unsigned[ownU32]("4294967295"),
	unsigned[uint64]("18446744073709551615"), unsigned[ownU64]("18446744073709551615"),
	unsigned[uint]("18446744073709551615"), unsigned[ownU]("18446744073709551615"),
}

func integer(s string) *big.Int {
	n, ok := new(big.Int).SetString(s, 10)
	if !ok {
		panic("no integer: " + s)
	}
	return n
}

func (w width) has(n *big.Int) bool {
	return n.Cmp(w.least) >= 0 && n.Cmp(w.most) <= 0
}

// within: has the other type all numbers of this one?
func (w width) within(o width) bool {
	return o.has(w.least) && o.has(w.most)
}

// refusal: what is wrong with a text for all types; OK, if it is a plain number's, whose value is told.
func refusal(raw string) (*big.Int, api.Errno) {
	if !form.MatchString(raw) {
		return new(big.Int), api.ErrNumber
	}
	if !plain.MatchString(raw) {
		return new(big.Int), api.ErrFraction
	}
	return integer(raw), api.OK
}

// check: holds what is promised of a text against the chapter's words, for each type.
func check(t *testing.T, raw string) {
	t.Helper()
	value, e := refusal(raw)
	for _, w := range widths {
		want, wantE := value, e
		if e == api.OK && !w.has(value) {
			want, wantE = new(big.Int), api.ErrOver
		}
		if n, e := w.read(raw); n.Cmp(want) != 0 || e != wantE {
			t.Fatalf("%s of %.80q: %v %v, not %v %v", w.name, raw, n, e, want, wantE)
		}
		if wantE == api.OK {
			checkTaken(t, w, raw, want)
		}
	}
}

// checkTaken: holds what is promised of a text that is taken for a type, as n.
func checkTaken(t *testing.T, w width, raw string, n *big.Int) {
	t.Helper()
	said := w.text(n)
	if said != n.String() || said != raw && raw != "-0" {
		t.Fatalf("%s: Text(%v): %q, read from %q", w.name, n, said, raw)
	}
	if back, e := w.read(said); back.Cmp(n) != 0 || e != api.OK {
		t.Fatalf("%s of %q: %v %v", w.name, said, back, e)
	}
	d, e := decimal.Of(raw)
	if e != api.OK || !decimal.Whole(d) {
		t.Fatalf("%q: %v %v", raw, d, e)
	}
	if worth := integer(map[bool]string{true: "-"}[d.Neg] + "0" + d.Digits + strings.Repeat("0", d.Exp)); worth.Cmp(n) != 0 {
		t.Fatalf("%q: the decimal's worth is %v, not %v", raw, worth, n)
	}
}

// checkAll: each of these integers, with a minus ahead and without.
func checkAll(t *testing.T, list []*big.Int) {
	t.Helper()
	for _, n := range list {
		check(t, n.String())
		check(t, new(big.Int).Neg(n).String())
	}
}

func sum(a *big.Int, b int64) *big.Int { return new(big.Int).Add(a, big.NewInt(b)) }

func product(a *big.Int, b int64) *big.Int { return new(big.Int).Mul(a, big.NewInt(b)) }

func power(a, b int64) *big.Int { return new(big.Int).Exp(big.NewInt(a), big.NewInt(b), nil) }

// refused: is it refused so, of every type, with zero beside it?
func refused(t *testing.T, raw string, want api.Errno) {
	t.Helper()
	for _, w := range widths {
		if n, e := w.read(raw); n.Sign() != 0 || e != want {
			t.Errorf("%s of %.80q: %v %v, not %v", w.name, raw, n, e, want)
		}
	}
}

func TestExampleInt(t *testing.T) {
	for _, x := range []struct {
		raw string
		n   int8
		e   api.Errno
	}{{"127", 127, api.OK}, {"128", 0, api.ErrOver}, {"-129", 0, api.ErrOver}, {"-128", -128, api.OK}, {"1000.5", 0, api.ErrFraction}} {
		if n, e := Int[int8](x.raw); n != x.n || e != x.e {
			t.Error(x, n, e)
		}
	}
	for _, x := range []struct {
		raw string
		n   int64
		e   api.Errno
	}{{"-9223372036854775808", math.MinInt64, api.OK}, {"9223372036854775808", 0, api.ErrOver}} {
		if n, e := Int[int64](x.raw); n != x.n || e != x.e {
			t.Error(x, n, e)
		}
	}
	for _, x := range []struct {
		raw string
		e   api.Errno
	}{
		{"-0", api.OK}, {"1.0", api.ErrFraction}, {"1e2", api.ErrFraction}, {"", api.ErrNumber}, {"01", api.ErrNumber}, {"+1", api.ErrNumber}, {"1 ", api.ErrNumber}, {"1.", api.ErrNumber},
		{strings.Repeat("7", 1000), api.ErrOver},
	} {
		if n, e := Int[int](x.raw); n != 0 || e != x.e {
			t.Error(x, n, e)
		}
	}
}

func TestExampleUint(t *testing.T) {
	for _, x := range []struct {
		raw string
		n   uint64
		e   api.Errno
	}{{"18446744073709551615", math.MaxUint64, api.OK}, {"18446744073709551616", 0, api.ErrOver}, {strings.Repeat("7", 1000), 0, api.ErrOver}} {
		if n, e := Uint[uint64](x.raw); n != x.n || e != x.e {
			t.Error(x, n, e)
		}
	}
	for _, x := range []struct {
		raw string
		e   api.Errno
	}{{"-1", api.ErrOver}, {"-0", api.OK}} {
		if n, e := Uint[uint8](x.raw); n != 0 || e != x.e {
			t.Error(x, n, e)
		}
	}
	if n, e := Uint[uint]("-1e9"); n != 0 || e != api.ErrFraction {
		t.Error(n, e)
	}
}

func TestExampleText(t *testing.T) {
	if s := Text(int8(-128)); s != "-128" {
		t.Error(s)
	}
	if s := Text(uint64(0)); s != "0" {
		t.Error(s)
	}
}

// bounds: the greatest and the least number of each type, each once.
func bounds() []*big.Int {
	var list []*big.Int
	for _, w := range widths {
		list = append(list, w.least, w.most)
	}
	slices.SortFunc(list, (*big.Int).Cmp)
	return slices.CompactFunc(list, func(a, b *big.Int) bool { return a.Cmp(b) == 0 })
}

// TestBounds: about the greatest and the least number of each type, and what wraps round into it.
func TestBounds(t *testing.T) {
	for _, bound := range bounds() {
		var list []*big.Int
		for add := int64(-300); add <= 300; add++ {
			list = append(list, sum(bound, add))
		}
		for by := int64(2); by <= 30; by++ {
			for add := int64(-11); add <= 11; add++ {
				list = append(list, sum(product(bound, by), add))
			}
		}
		checkAll(t, list)
	}
}

// TestTenfold: where ten times as much runs over, with each digit behind it.
func TestTenfold(t *testing.T) {
	for _, bound := range bounds() {
		var list []*big.Int
		for add := int64(-13); add <= 13; add++ {
			n := sum(new(big.Int).Quo(bound, big.NewInt(10)), add)
			for digit := int64(0); digit <= 9; digit++ {
				list = append(list, sum(product(n, 10), digit), sum(product(n, 100), digit), sum(product(product(n, 100), 100), digit))
			}
		}
		checkAll(t, list)
	}
}

// TestPowers: powers of two and of ten, multiples of them, and what is beside them.
func TestPowers(t *testing.T) {
	for _, base := range []int64{2, 10} {
		for n := int64(0); n <= 140; n++ {
			var list []*big.Int
			for by := int64(1); by <= 9; by++ {
				for add := int64(-3); add <= 3; add++ {
					list = append(list, sum(product(power(base, n), by), add))
				}
			}
			checkAll(t, list)
		}
	}
}

// TestSmall: every number of eight and of sixteen bits, and those beyond them that wrap round into them.
func TestSmall(t *testing.T) {
	for n := -70000; n <= 70000; n++ {
		smallInt[int8](t, n, math.MinInt8, math.MaxInt8)
		smallInt[ownI8](t, n, math.MinInt8, math.MaxInt8)
		smallUint[uint8](t, n, math.MaxUint8)
		smallUint[ownU8](t, n, math.MaxUint8)
	}
	for n := -700000; n <= 700000; n++ {
		smallInt[int16](t, n, math.MinInt16, math.MaxInt16)
		smallUint[uint16](t, n, math.MaxUint16)
	}
}

func smallInt[T Signed](t *testing.T, n, least, most int) {
	want, wantE := 0, api.ErrOver
	if least <= n && n <= most {
		want, wantE = n, api.OK
	}
	got, e := Int[T](strconv.Itoa(n))
	if int(got) != want || e != wantE || e == api.OK && Text(got) != strconv.Itoa(n) {
		t.Fatal(n, got, e, Text(got))
	}
}

func smallUint[T Unsigned](t *testing.T, n, most int) {
	want, wantE := 0, api.ErrOver
	if 0 <= n && n <= most {
		want, wantE = n, api.OK
	}
	got, e := Uint[T](strconv.Itoa(n))
	if int(got) != want || e != wantE || e == api.OK && Text(got) != strconv.Itoa(n) {
		t.Fatal(n, got, e, Text(got))
	}
}

func TestNoughts(t *testing.T) {
	for _, w := range widths {
		for _, raw := range []string{"0", "-0"} {
			if n, e := w.read(raw); n.Sign() != 0 || e != api.OK {
				t.Error(w.name, raw, n, e)
			}
		}
		if s := w.text(new(big.Int)); s != "0" {
			t.Error(w.name, s)
		}
	}
	check(t, "-0")
	for _, raw := range []string{"-00", "00", "000", "-", "-+0", "+0", "--0", "0-", "-0-", "- 0", "0 ", " 0", "0x0", "-0,"} {
		refused(t, raw, api.ErrNumber)
	}
	for _, raw := range []string{"-0.0", "0.0", "0e0", "-0E0", "0e5", "-0e-5", "0.000e+00", "0e99999999999999999999"} {
		refused(t, raw, api.ErrFraction)
	}
}

// TestBelow: numbers below 0, which no type without a sign has.
func TestBelow(t *testing.T) {
	for _, raw := range []string{"-1", "-2", "-9", "-10", "-100", "-127", "-128", "-129", "-255", "-256", "-257", "-512", "-65535", "-65536", "-4294967295", "-4294967296", "-18446744073709551615", "-18446744073709551616", "-18446744073709551617", "-1" + strings.Repeat("0", 1000)} {
		for _, w := range widths {
			if n, e := w.read(raw); w.least.Sign() == 0 && (n.Sign() != 0 || e != api.ErrOver) {
				t.Error(w.name, raw, n, e)
			}
		}
		check(t, raw)
	}
}

// TestLong: numbers of many digits, among them those whose last bits are all 0 or all 1.
func TestLong(t *testing.T) {
	for _, n := range []int{20, 21, 39, 64, 100, 999, 1000, 1001, 5000} {
		o := strings.Repeat("0", n)
		for _, raw := range []string{"1" + o, "5" + o + "1", "256" + o, "65536" + o, "4294967296" + o + "7", "18446744073709551616" + o, "18446744073709551615" + o, strings.Repeat("9", n), "1" + strings.Repeat("7654321890", n/10+1), power(2, int64(4*n)).String(), sum(power(2, int64(4*n)), -1).String(), sum(power(2, int64(4*n)), 5).String()} {
			check(t, raw)
			check(t, "-"+raw)
			refused(t, "-"+raw, api.ErrOver)
			refused(t, raw, api.ErrOver)
			for _, s := range []string{raw + ".0", raw + "e0", "-" + raw + "E-" + strconv.Itoa(n), raw + ".5e-" + strconv.Itoa(2*n), "0." + raw, "1e" + raw, "-1E-" + raw, "0e" + raw} {
				refused(t, s, api.ErrFraction)
			}
			for _, s := range []string{"0" + raw, "-0" + raw, raw + " ", raw + "x", raw + ".", raw + "e", raw + "-", "+" + raw, raw + ".5e+", raw + "e5.", raw + "\x00"} {
				refused(t, s, api.ErrNumber)
			}
		}
	}
}

// TestBeyondDecimals: a plain number that has no decimal is a number all the same, and beyond every type.
func TestBeyondDecimals(t *testing.T) {
	if testing.Short() {
		t.Skip("texts of 1 GiB")
	}
	var b strings.Builder
	b.Grow(api.MaxExp + 3 + 1<<16)
	b.WriteString("-10")
	for some := strings.Repeat("0", 1<<16); b.Len() < api.MaxExp+3; {
		b.WriteString(some)
	}
	raw := b.String()
	if n, e := Int[int64](raw); n != 0 || e != api.ErrOver {
		t.Error(n, e)
	}
	if n, e := Uint[uint8](raw[1:]); n != 0 || e != api.ErrOver {
		t.Error(n, e)
	}
}

func TestNoNumber(t *testing.T) {
	for _, raw := range []string{
		"", "-", "+", "+1", "-+1", "+-1", "--1", "01", "007", "-01", "00", "0123456789012345678901234567890", " ", " 1", "1 ", "\t1", "1\n", "1\r", "\n", "1 2", "- 1", "1,", "1]", "1}", "\"1\"", "1x", "x1", "1-", "1+", "1-1", "1_000", "1,000", "0x1", "0b1", "0o7", "1f", "1n",
		".", ".5", "-.5", "1.", "-1.", "1.x", "1..5", "1.5.", "1.e5", "1.-5", "e", "e5", "E5", "-e5", "1e", "1E", "1e+", "1e-", "1E+-5", "1ee5", "1e5.", "1e5e5", "1.5e", "1.5e ", "1.5e+", "1e+5 ", "0.", "0e", "-0.", "-0e-",
		"\x00", "1\x00", "\x001", "\xff", "1\xff", "é", "1é", "١", "１", "½", "−1", "NaN", "Infinity", "-Infinity", "inf", "null", "true", "\ufeff1", "1\u00a0",
		"128x", "-1x", "256 ", "18446744073709551616,", "-9223372036854775809-", "1.5 ", "1e5,", "01.5", "00e5", "+1.5", "+1e5", "1e1073741825x", "1e99999999999999999999 ",
	} {
		refused(t, raw, api.ErrNumber)
		check(t, raw)
	}
}

func TestFractions(t *testing.T) {
	for _, raw := range []string{
		"1.0", "1.5", "-1.5", "0.5", "-0.5", "0.0", "-0.0", "1e0", "1E0", "1e2", "1E2", "1e+2", "1e-2", "-1e2", "-1e9", "-1.0", "100e-2", "10.0e-1", "127.0", "128.0", "-128.0", "-129.0", "255.0", "256.0", "-1e0", "0e0", "-0e0", "0.1e1", "1.50E+1", "1000.5",
		"9223372036854775807.0", "9223372036854775808.5", "-9223372036854775809e0", "18446744073709551616.0", "1e18", "1e19", "1e20", "1e400", "-1e400", "1e-400", "1e1073741824", "1e1073741825", "-1e1073741825", "1e-1073741825", "10e1073741824", "1e99999999999999999999", "-1E-99999999999999999999", "0e99999999999999999999",
		strings.Repeat("9", 1000) + ".0", "-" + strings.Repeat("9", 1000) + "e5", "0." + strings.Repeat("0", 1000) + "1",
	} {
		refused(t, raw, api.ErrFraction)
		check(t, raw)
	}
}

// TestOrder: of several reasons to refuse the first one is told.
func TestOrder(t *testing.T) {
	for _, over := range []string{"256", "-129", "-1", "70000", "99999999999999999999", "-99999999999999999999"} {
		if n, e := Uint[uint8](over); n != 0 || e != api.ErrOver {
			t.Error(over, n, e)
		}
		for _, x := range []struct {
			raw string
			e   api.Errno
		}{{over + ".0", api.ErrFraction}, {over + "e5", api.ErrFraction}, {over + "E+0", api.ErrFraction}, {over + ".", api.ErrNumber}, {over + "e", api.ErrNumber}, {over + ".0e", api.ErrNumber}, {over + ".0 ", api.ErrNumber}, {over + " ", api.ErrNumber}, {"+" + over, api.ErrNumber}, {"+" + over + ".0", api.ErrNumber}} {
			refused(t, x.raw, x.e)
			check(t, x.raw)
		}
	}
}

// short: all texts of at most n of these bytes.
func short(n int, of string) []string {
	all, last := []string{""}, []string{""}
	for range n {
		var next []string
		for _, s := range last {
			for i := range len(of) {
				next = append(next, s+of[i:i+1])
			}
		}
		all, last = append(all, next...), next
	}
	return all
}

func TestShortTexts(t *testing.T) {
	for _, s := range short(5, "-+.eE012") {
		check(t, s)
	}
	for _, s := range short(3, "-.e0123456789 ") {
		check(t, s)
	}
}

// TestEveryByte: each byte, ahead of, within and behind what would be a number or the beginning of one.
func TestEveryByte(t *testing.T) {
	for _, s := range []string{"", "-", "0", "-0", "1", "-12", "127", "-128", "255", "18446744073709551615", "1.", "1.5", "1e", "1e-", "1e5"} {
		for x := range 256 {
			one := string([]byte{byte(x)})
			for _, raw := range []string{one + s, s + one, s + one + "0", s + one + "7", one + s + one, s + one + ".5", s + one + "e1"} {
				check(t, raw)
			}
		}
	}
}

// rule: a fixed row of numbers.
type rule uint64

func (r *rule) next(n int) int {
	*r = *r*6364136223846793005 + 1442695040888963407
	return int(uint64(*r) >> 33 % uint64(n))
}

// mixed: a text that is nearly a whole number of some width.
func (r *rule) mixed() string {
	digits := func(n int) string {
		var b strings.Builder
		for range r.next(n) {
			b.WriteByte("0123456789"[r.next(10)])
		}
		return b.String()
	}
	pick := func(of ...string) string { return of[r.next(len(of))] }
	s := pick("", "", "", "-", "-", "-", "+", " ") + pick("", "0", "1", "9", "12", "25", "3276", "6553", "214748364", "429496729", "922337203685477580", "1844674407370955161") + digits(3+r.next(20))
	return s + pick("", "", "", "", "", "", "."+digits(3), "e"+digits(3), "E-5", ",", " ", "\x00")
}

func TestMixed(t *testing.T) {
	r := rule(12)
	taken := 0
	for range 20000 {
		raw := r.mixed()
		check(t, raw)
		if _, e := Int[int64](raw); e == api.OK {
			taken++
		}
	}
	if taken < 1000 {
		t.Error("too few numbers:", taken)
	}
}

// TestText: there and back, of the bounds of each type and of what lies between.
func TestText(t *testing.T) {
	r := rule(123)
	for _, w := range widths {
		var list []*big.Int
		for add := int64(0); add <= 120; add++ {
			list = append(list, sum(w.least, add), sum(w.most, -add), sum(new(big.Int), add), sum(new(big.Int), -add))
		}
		for n := int64(0); n <= 64; n++ {
			for add := int64(-1); add <= 1; add++ {
				for _, x := range []*big.Int{power(2, n), power(10, n%20)} {
					list = append(list, sum(x, add), new(big.Int).Neg(sum(x, add)))
				}
			}
		}
		for range 2000 {
			n := new(big.Int).SetUint64(uint64(r.next(1<<30))<<34 ^ uint64(r.next(1<<30))<<17 ^ uint64(r.next(1<<30)))
			n.Rsh(n, uint(r.next(64)))
			list = append(list, n, new(big.Int).Neg(n))
		}
		for _, n := range list {
			if !w.has(n) {
				continue
			}
			if s := w.text(n); s != n.String() {
				t.Fatal(w.name, n, s)
			}
			if back, e := w.read(w.text(n)); back.Cmp(n) != 0 || e != api.OK {
				t.Fatal(w.name, n, back, e)
			}
		}
	}
}

func TestTextOfBounds(t *testing.T) {
	for _, x := range []struct{ got, want string }{
		{Text(int8(127)), "127"}, {Text(int8(-128)), "-128"}, {Text(int16(32767)), "32767"}, {Text(int16(-32768)), "-32768"}, {Text(int32(2147483647)), "2147483647"}, {Text(int32(-2147483648)), "-2147483648"},
		{Text(int64(math.MaxInt64)), "9223372036854775807"}, {Text(int64(math.MinInt64)), "-9223372036854775808"}, {Text(math.MaxInt), "9223372036854775807"}, {Text(math.MinInt), "-9223372036854775808"},
		{Text(uint8(255)), "255"}, {Text(uint16(65535)), "65535"}, {Text(uint32(4294967295)), "4294967295"}, {Text(uint64(math.MaxUint64)), "18446744073709551615"}, {Text(uint(math.MaxUint)), "18446744073709551615"},
		{Text(ownI8(-128)), "-128"}, {Text(ownI16(-1)), "-1"}, {Text(ownI32(10)), "10"}, {Text(ownI64(-100)), "-100"}, {Text(ownI(99)), "99"}, {Text(ownU8(200)), "200"}, {Text(ownU16(0)), "0"}, {Text(ownU32(1000)), "1000"}, {Text(ownU64(1 << 63)), "9223372036854775808"}, {Text(ownU(7)), "7"},
		{Text(0), "0"}, {Text(int8(0)), "0"}, {Text(uint8(0)), "0"}, {Text(-1), "-1"}, {Text(int8(-1)), "-1"}, {Text(int64(-1)), "-1"}, {Text('a'), "97"},
	} {
		if x.got != x.want {
			t.Error(x)
		}
	}
}

// TestWider: what is taken for a type is taken for each that has all its numbers, with the same value.
func TestWider(t *testing.T) {
	var list []string
	for _, w := range widths {
		for add := int64(-3); add <= 3; add++ {
			list = append(list, sum(w.least, add).String(), sum(w.most, add).String())
		}
	}
	r := rule(124)
	for range 3000 {
		list = append(list, r.mixed())
	}
	list = append(list, short(3, "-0127")...)
	pairs := 0
	for _, a := range widths {
		for _, b := range widths {
			if !a.within(b) {
				continue
			}
			pairs++
			for _, raw := range list {
				n, e := a.read(raw)
				m, f := b.read(raw)
				if e == api.OK && (f != api.OK || n.Cmp(m) != 0) {
					t.Fatal(a.name, b.name, raw, n, e, m, f)
				}
			}
		}
	}
	if pairs != 4*(5+4+3+2+2)+4*(5+4+3+2+2)+4*(4+3+2) {
		t.Error("the test is wrong:", pairs)
	}
}

// TestAgain: the same question is answered the same again, whatever was asked between and whatever else runs.
func TestAgain(t *testing.T) {
	var wait sync.WaitGroup
	for range 8 {
		wait.Go(func() {
			r := rule(7)
			for range 1000 {
				raw := r.mixed()
				first := told(raw)
				told(r.mixed())
				if again := told(strings.Clone(raw)); !slices.Equal(again, first) {
					t.Error(raw, first, again)
				}
			}
		})
	}
	wait.Wait()
}

// told: what all types say of a text.
func told(raw string) []string {
	var list []string
	for _, w := range widths {
		n, e := w.read(raw)
		list = append(list, n.String()+" "+strconv.Itoa(int(e)))
	}
	return list
}

func ExampleInt() {
	fmt.Println(Int[int8]("-128"))
	_, e := Int[int8]("128")
	fmt.Println(e == api.ErrOver)
	// Output:
	// -128 0
	// true
}

func ExampleUint() {
	fmt.Println(Uint[uint64]("18446744073709551615"))
	_, e := Uint[uint64]("1e2")
	fmt.Println(e == api.ErrFraction)
	// Output:
	// 18446744073709551615 0
	// true
}

func ExampleText() {
	fmt.Println(Text(int16(-32768)))
	// Output: -32768
}
