package decimal

import (
	"fmt"
	"math"
	"math/big"
	"regexp"
	"slices"
	"strconv"
	"strings"
	"sync"
	"testing"
	"unsafe"

	"quarry/api"
)

// form: a number's text, by the chapter's words.
var form = regexp.MustCompile(`^(-?)(0|[1-9][0-9]*)(?:\.([0-9]+))?(?:[eE]([+-]?[0-9]+))?$`)

// shaped: the digits of a well shaped decimal other than 0.
var shaped = regexp.MustCompile(`^[1-9]([0-9]*[1-9])?$`)

func isNumber(s string) bool {
	return form.MatchString(s)
}

// begins: is it the beginning of a number's text?
func begins(s string) bool {
	return isNumber(s) || isNumber(s+"0")
}

// span: how far the bytes from a place on go as a number's text goes, and whether a number ends there.
func span(s string, at int) (int, bool) {
	end := at
	for end < len(s) && begins(s[at:end+1]) {
		end++
	}
	return end, isNumber(s[at:end])
}

func big10(s string) *big.Int {
	n, ok := new(big.Int).SetString(s, 10)
	if !ok {
		panic("no integer: " + s)
	}
	return n
}

// plainOf: what the chapter's words say of Of, worked out in integers of any size.
func plainOf(raw string) (api.Decimal, api.Errno) {
	if !isNumber(raw) {
		return api.Decimal{}, api.ErrNumber
	}
	m := form.FindStringSubmatch(raw)
	n := big10(m[2] + m[3])
	if n.Sign() == 0 {
		return api.Decimal{Neg: m[1] == "-"}, api.OK
	}
	exp := new(big.Int)
	if m[4] != "" {
		exp = big10(m[4])
	}
	exp.Sub(exp, big.NewInt(int64(len(m[3]))))
	ten, rest := big.NewInt(10), new(big.Int)
	for {
		q, _ := new(big.Int).QuoRem(n, ten, rest)
		if rest.Sign() != 0 {
			break
		}
		n = q
		exp.Add(exp, big.NewInt(1))
	}
	if exp.CmpAbs(big.NewInt(1073741824)) > 0 {
		return api.Decimal{}, api.ErrBig
	}
	return api.Decimal{Neg: m[1] == "-", Digits: n.String(), Exp: int(exp.Int64())}, api.OK
}

// plainRead: what the chapter's words say of Read.
func plainRead(s string, at int) (api.Decimal, int, api.Errno) {
	if at < 0 || at > len(s) {
		return api.Decimal{}, 0, api.ErrRange
	}
	end, ok := span(s, at)
	if !ok {
		return api.Decimal{}, end, api.ErrNumber
	}
	d, e := plainOf(s[at:end])
	return d, end, e
}

func plainFormed(d api.Decimal) bool {
	if d.Digits == "" {
		return d.Exp == 0
	}
	return shaped.MatchString(d.Digits) && d.Exp >= -1073741824 && d.Exp <= 1073741824
}

// plainRat: a well shaped decimal's worth. Only for small exponents.
func plainRat(d api.Decimal) *big.Rat {
	n := new(big.Int)
	if d.Digits != "" {
		n = big10(d.Digits)
	}
	if d.Neg {
		n.Neg(n)
	}
	power := new(big.Int).Exp(big.NewInt(10), big.NewInt(int64(max(d.Exp, -d.Exp))), nil)
	if d.Exp < 0 {
		return new(big.Rat).SetFrac(n, power)
	}
	return new(big.Rat).SetInt(n.Mul(n, power))
}

// checkText: holds all that is promised of a text, at each place, against the plain words.
func checkText(t *testing.T, s string) {
	t.Helper()
	want, wantE := plainOf(s)
	if d, e := Of(s); d != want || e != wantE {
		t.Fatalf("Of(%q): %v %v, not %v %v", s, d, e, want, wantE)
	}
	for at := -1; at <= len(s)+1; at++ {
		want, wantEnd, wantE := plainRead(s, at)
		d, end, e := Read(s, at)
		if d != want || end != wantEnd || e != wantE {
			t.Fatalf("Read(%q, %d): %v %d %v, not %v %d %v", s, at, d, end, e, want, wantEnd, wantE)
		}
		if e == api.OK {
			checkDecimal(t, d)
			if again, e := Of(s[at:end]); again != d || e != api.OK {
				t.Fatalf("Of(%q): %v %v, and Read(%q, %d): %v", s[at:end], again, e, s, at, d)
			}
		}
	}
}

// checkDecimal: holds what is promised of one decimal.
func checkDecimal(t *testing.T, d api.Decimal) {
	t.Helper()
	ok := plainFormed(d)
	if Formed(d) != ok {
		t.Fatalf("Formed(%v): not %v", d, ok)
	}
	if Whole(d) != (ok && d.Exp >= 0) {
		t.Fatalf("Whole(%v): %v", d, Whole(d))
	}
	s, e := Text(d)
	if !ok {
		if s != "" || e != api.ErrShape {
			t.Fatalf("Text(%v): %q %v", d, s, e)
		}
		return
	}
	if want := plainText(d); s != want || e != api.OK {
		t.Fatalf("Text(%v): %q %v, not %q", d, s, e, want)
	}
	if back, e := Of(s); back != d || e != api.OK {
		t.Fatalf("Of(%q): %v %v, not %v", s, back, e, d)
	}
}

func plainText(d api.Decimal) string {
	s := map[bool]string{true: "-"}[d.Neg] + d.Digits
	if d.Digits == "" {
		s += "0"
	}
	if d.Exp != 0 {
		s += fmt.Sprintf("e%d", d.Exp)
	}
	return s
}

// short: all texts of at most n of these bytes.
func short(n int, of string) []string {
	all, last := []string{""}, []string{""}
	for range n {
		var next []string
		for _, s := range last {
			for i := range len(of) {
				next = append(next, s+of[i:i+1])
			}
		}
		all, last = append(all, next...), next
	}
	return all
}

// rule: a fixed row of numbers.
type rule uint64

func (r *rule) next(n int) int {
	*r = *r*6364136223846793005 + 1442695040888963407
	return int(uint64(*r) >> 33 % uint64(n))
}

// mixed: a text that is nearly a number.
func (r *rule) mixed() string {
	digits := func() string {
		var b strings.Builder
		for range r.next(5) {
			b.WriteByte("000123456789"[r.next(12)])
		}
		return b.String()
	}
	pick := func(of ...string) string { return of[r.next(len(of))] }
	s := pick("", "", "-", "-", "x", "+") + pick("0", "1", "7", "3"+digits(), digits())
	s += pick("", "."+digits(), ".0"+digits(), ".5"+digits(), "..")
	s += pick("", pick("e", "E", "ee")+pick("", "+", "-", "+-")+digits())
	return s + pick("", "", "", ",", " ", "\n", "\x00", "é")
}

func d(sign, digits string, exp int) api.Decimal {
	return api.Decimal{Neg: sign == "-", Digits: digits, Exp: exp}
}

// odd: decimals that aren't well shaped.
var odd = []api.Decimal{
	d("", "10", 0), d("", "05", 0), d("", "0", 0), d("-", "0", 0), d("", "00", 0), d("", "050", 0), d("", "1 ", 0), d(" ", " 1", 0), d("", "1a", 0), d("", "a", 0), d("", "a1", 0), d("", "1a1", 0),
	d("", "-1", 0), d("", "+1", 0), d("", "1.5", 0), d("", "1e5", 0), d("", "1/1", 0), d("", "1:1", 0), d("", "1\n", 0), d("", "1\x001", 0), d("", "\xff", 0), d("", "1é1", 0), d("", "١", 0),
	d("", "", 1), d("", "", -1), d("-", "", 1), d("-", "", -1), d("", "", 1<<30), d("", "", -1<<30), d("", "", math.MaxInt), d("-", "", math.MinInt),
	d("", "1", 1<<30+1), d("", "1", -1<<30-1), d("-", "1", 1<<30+1), d("", "123", 1<<30+1), d("", "123", -1<<30-1), d("", "1", 1<<31), d("", "1", 1<<32), d("", "1", -1<<32), d("", "7", math.MaxInt), d("", "7", math.MaxInt-1), d("-", "7", math.MinInt), d("", "7", math.MinInt+1),
	d("", "10", 1<<30+1), d("", "01", math.MinInt),
}

// far: well shaped decimals at the bounds of Exp.
var far = []api.Decimal{
	d("", "1", 1<<30), d("-", "1", 1<<30), d("", "1", -1<<30), d("-", "1", -1<<30), d("", "9", 1<<30-1), d("", "9", -1<<30+1), d("", "12345678901234567890123", 1<<30), d("-", "12345678901234567890123", -1<<30),
}

// near: well shaped decimals of small exponents, in no order.
func near() []api.Decimal {
	list := []api.Decimal{d("", "", 0), d("-", "", 0)}
	for _, digits := range []string{"1", "2", "9", "11", "12", "19", "99", "101", "109", "110001", "123", "1203", "999", "99999999999999999999", "100000000000000000001", strings.Repeat("9", 70)} {
		for _, exp := range []int{-71, -70, -20, -19, -3, -2, -1, 0, 1, 2, 3, 17, 18, 19, 20, 70} {
			list = append(list, d("", digits, exp), d("-", digits, exp))
		}
	}
	return list
}

func TestExampleOf(t *testing.T) {
	for _, x := range []struct {
		raw  string
		want api.Decimal
		e    api.Errno
	}{
		{"12.50", d("", "125", -1), api.OK}, {"-0.0", d("-", "", 0), api.OK}, {"1e3", d("", "1", 3), api.OK}, {"1000", d("", "1", 3), api.OK}, {"1E+3", d("", "1", 3), api.OK}, {"1000.0", d("", "1", 3), api.OK},
		{"0.001e-2", d("", "1", -5), api.OK}, {"0e99999999999999999999", d("", "", 0), api.OK}, {"1e1073741824", d("", "1", 1073741824), api.OK},
		{"10e1073741824", d("", "", 0), api.ErrBig}, {"1e1073741825", d("", "", 0), api.ErrBig}, {"1e-1073741825", d("", "", 0), api.ErrBig}, {"10e-1073741825", d("", "1", -1073741824), api.OK},
		{"-1.50", d("-", "15", -1), api.OK},
	} {
		if got, e := Of(x.raw); got != x.want || e != x.e {
			t.Error(x, got, e)
		}
		checkText(t, x.raw)
	}
	for _, raw := range []string{"", "-", "01", "1.", ".5", "+1", "1e", "1e+", " 1", "1 ", "0x1", "NaN"} {
		if got, e := Of(raw); got != (api.Decimal{}) || e != api.ErrNumber {
			t.Error(raw, got, e)
		}
		checkText(t, raw)
	}
}

func TestExampleRead(t *testing.T) {
	for _, x := range []struct {
		s    string
		at   int
		want api.Decimal
		end  int
		e    api.Errno
	}{
		{"01", 0, d("", "", 0), 1, api.OK}, {"1.x", 0, d("", "", 0), 2, api.ErrNumber}, {"1e", 0, d("", "", 0), 2, api.ErrNumber}, {"1e+", 0, d("", "", 0), 3, api.ErrNumber}, {"-x", 0, d("", "", 0), 1, api.ErrNumber},
		{"", 0, d("", "", 0), 0, api.ErrNumber}, {"a12b", 1, d("", "12", 0), 3, api.OK}, {"12", 3, d("", "", 0), 0, api.ErrRange}, {"12", -1, d("", "", 0), 0, api.ErrRange},
		{"1e1073741825,", 0, d("", "", 0), 12, api.ErrBig}, {"1.5.2", 0, d("", "15", -1), 3, api.OK},
	} {
		if got, end, e := Read(x.s, x.at); got != x.want || end != x.end || e != x.e {
			t.Error(x, got, end, e)
		}
		checkText(t, x.s)
	}
}

func TestExampleShapes(t *testing.T) {
	for _, x := range []api.Decimal{d("", "10", 0), d("", "05", 0), d("", "", 1), d("", "1a", 0), d("", "1", 1073741825)} {
		if Formed(x) {
			t.Error(x)
		}
	}
	if !Formed(d("-", "", 0)) {
		t.Error("minus 0")
	}
	for _, x := range []struct {
		a, b api.Decimal
		n    int
	}{{d("", "1", 2), d("", "99", 0), 1}, {d("-", "", 0), d("", "", 0), 0}, {d("-", "1", 5), d("", "1", -9), -1}} {
		if n, e := Cmp(x.a, x.b); n != x.n || e != api.OK {
			t.Error(x, n, e)
		}
	}
	for _, x := range []struct {
		d    api.Decimal
		want string
	}{{d("", "125", -1), "125e-1"}, {d("-", "1", 3), "-1e3"}, {d("", "7", 0), "7"}, {d("-", "", 0), "-0"}} {
		if s, e := Text(x.d); s != x.want || e != api.OK {
			t.Error(x, s, e)
		}
	}
	if !Whole(d("", "1", 3)) || !Whole(d("", "", 0)) || Whole(d("", "125", -1)) || Whole(d("", "10", 0)) {
		t.Error("whole")
	}
}

func TestShortTexts(t *testing.T) {
	for _, s := range short(5, "-+.eE0172") {
		checkText(t, s)
	}
}

// TestEveryByte: behind each state in which the reader may be, each byte, with something behind it and without.
func TestEveryByte(t *testing.T) {
	for _, ahead := range []string{"", "-", "0", "-0", "1", "-12", "0.", "1.", "1.5", "1.50", "1e", "1E", "0e", "1e+", "1e-", "1e5", "1e+0", "1.5e", "1.5E", "1.5e-", "1.5e-3", "1.5E+30"} {
		for x := range 256 {
			for _, behind := range []string{"", "0", "7", "7.5", "x", "e1", "\n"} {
				checkText(t, ahead+string([]byte{byte(x)})+behind)
			}
		}
		checkText(t, ahead)
	}
}

func TestMixedTexts(t *testing.T) {
	r := rule(11)
	for range 30000 {
		checkText(t, r.mixed())
	}
}

func TestReadPlaces(t *testing.T) {
	s := "[-12.5e3,07]"
	for _, at := range []int{math.MinInt, math.MinInt + 1, math.MinInt32, -13, -12, -2, -1, 13, 14, math.MaxInt32, math.MaxInt - 1, math.MaxInt} {
		for _, s := range []string{s, "", "1"} {
			if d, end, e := Read(s, at); d != (api.Decimal{}) || end != 0 || e != api.ErrRange {
				t.Error(s, at, d, end, e)
			}
		}
	}
	for at, want := range []struct {
		d   api.Decimal
		end int
		e   api.Errno
	}{
		{d("", "", 0), 0, api.ErrNumber}, {d("-", "125", 2), 8, api.OK}, {d("", "125", 2), 8, api.OK}, {d("", "25", 2), 8, api.OK}, {d("", "", 0), 4, api.ErrNumber}, {d("", "5", 3), 8, api.OK},
		{d("", "", 0), 6, api.ErrNumber}, {d("", "3", 0), 8, api.OK}, {d("", "", 0), 8, api.ErrNumber}, {d("", "", 0), 10, api.OK}, {d("", "7", 0), 11, api.OK}, {d("", "", 0), 11, api.ErrNumber}, {d("", "", 0), 12, api.ErrNumber},
	} {
		if d, end, e := Read(s, at); d != want.d || end != want.end || e != want.e {
			t.Error(at, d, end, e)
		}
	}
	checkText(t, s)
}

// TestWanting: the place of the byte that can't stand there, far behind the place that was asked.
func TestWanting(t *testing.T) {
	long := strings.Repeat("1230", 50)
	for _, x := range []struct {
		s   string
		end int
	}{
		{"-", 1}, {"-" + "-1", 1}, {"-.5", 1}, {"-e5", 1}, {"1.", 2}, {"1.e5", 2}, {"1..5", 2}, {"1.-5", 2}, {"0.", 2}, {"0.x", 2}, {"0e", 2}, {"0E ", 2}, {"0e+", 3}, {"1e-", 3}, {"1E+-5", 3}, {"1e++5", 3}, {"1e.5", 2}, {"1ee5", 2}, {"1eE5", 2}, {"1e+e", 3},
		{"1.5e", 4}, {"1.5e,", 4}, {"1.5E+", 5}, {"1.5e-,", 5}, {".5", 0}, {"+1", 0}, {"e5", 0}, {"", 0}, {"\x00", 0}, {"-\x00", 1},
		{long + ".", 201}, {long + ".x", 201}, {long + "." + long + "e", 402}, {"-" + long + "." + long + "e-", 404}, {"0." + long + "E+x" + long, 204},
	} {
		for _, ahead := range []string{"", "1", "-", "[1,"} {
			if d, end, e := Read(ahead+x.s, len(ahead)); d != (api.Decimal{}) || end != len(ahead)+x.end || e != api.ErrNumber {
				t.Error(ahead, x, d, end, e)
			}
		}
		if d, e := Of(x.s); d != (api.Decimal{}) || e != api.ErrNumber {
			t.Error(x, d, e)
		}
	}
}

// TestEnds: where what can't go on ends a number, where one may end.
func TestEnds(t *testing.T) {
	for _, x := range []struct {
		s    string
		want api.Decimal
		end  int
	}{
		{"00", d("", "", 0), 1}, {"-01", d("-", "", 0), 2}, {"0x1", d("", "", 0), 1}, {"0-1", d("", "", 0), 1}, {"1-1", d("", "1", 0), 1}, {"1+1", d("", "1", 0), 1}, {"12,", d("", "12", 0), 2}, {"12f", d("", "12", 0), 2}, {"12\x00", d("", "12", 0), 2},
		{"1.5.", d("", "15", -1), 3}, {"1.5-", d("", "15", -1), 3}, {"1.5+", d("", "15", -1), 3}, {"0.5x", d("", "5", -1), 3}, {"1e5.5", d("", "1", 5), 3}, {"1e5e5", d("", "1", 5), 3}, {"1e5-", d("", "1", 5), 3}, {"1e-5+", d("", "1", -5), 4}, {"1.5e05E", d("", "15", 4), 6},
	} {
		for _, ahead := range []string{"", "1", "-", "[1,"} {
			if d, end, e := Read(ahead+x.s, len(ahead)); d != x.want || end != len(ahead)+x.end || e != api.OK {
				t.Error(ahead, x, d, end, e)
			}
		}
		if d, e := Of(x.s); d != (api.Decimal{}) || e != api.ErrNumber {
			t.Error(x, d, e)
		}
	}
}

// TestNoNumber: bytes ahead of a number's text and behind it.
func TestNoNumber(t *testing.T) {
	for _, raw := range []string{"0", "-0", "1", "-12.5", "1e5", "1.5E-3", "1e1073741825", "-10e1073741824", "1e-99999999999999999999"} {
		for _, x := range []string{" ", "\t", "\n", "\r", "\x00", ",", "]", "\"", "x", "_", "\u00a0", "\ufeff"} {
			for _, s := range []string{x + raw, raw + x, x + raw + x, x} {
				if d, e := Of(s); d != (api.Decimal{}) || e != api.ErrNumber {
					t.Errorf("Of(%q): %v %v", s, d, e)
				}
			}
			checkText(t, x+raw+x)
		}
	}
	for _, s := range []string{"Infinity", "-Infinity", "inf", "NaN", "null", "true", "0x10", "0b1", "0o7", "1_000", "1,5", "--1", "١", "½", "1e5\n1", "1\n", "\"1\"", "1f", "1n"} {
		if d, e := Of(s); d != (api.Decimal{}) || e != api.ErrNumber {
			t.Errorf("Of(%q): %v %v", s, d, e)
		}
	}
}

// TestNoughts: noughts ahead of, within and behind the digits, on both sides of the point.
func TestNoughts(t *testing.T) {
	for _, n := range []int{0, 1, 2, 3, 17, 64, 300} {
		o := strings.Repeat("0", n)
		for _, x := range []struct {
			raw  string
			want api.Decimal
		}{
			{"1" + o, d("", "1", n)}, {"120" + o + "." + o + "0", d("", "12", n+1)}, {"1" + o + "2", d("", "1"+o+"2", 0)}, {"-1" + o + "2" + o, d("-", "1"+o+"2", n)}, {"1" + o + ".5", d("", "1"+o+"5", -1)}, {"1." + o + "5", d("", "1"+o+"5", -n-1)},
			{"0." + o + "5", d("", "5", -n-1)}, {"0." + o + "5" + o, d("", "5", -n-1)}, {"-0." + o + "502" + o, d("-", "502", -n-3)}, {"5.0" + o, d("", "5", 0)}, {"5.10" + o, d("", "51", -1)}, {"20" + o + ".0" + o, d("", "2", n+1)}, {"20" + o + ".0" + o + "3", d("", "20"+o+"0"+o+"3", -n-2)},
			{"1e" + o + "5", d("", "1", 5)}, {"1e-" + o + "5", d("", "1", -5)}, {"1e+" + o + "50", d("", "1", 50)}, {"1e" + o + "0", d("", "1", 0)}, {"1E-" + o + "0", d("", "1", 0)}, {"1e" + o + "1073741824", d("", "1", 1<<30)}, {"1e-" + o + "1073741824", d("", "1", -1<<30)},
			{"0." + o + "5e" + strconv.Itoa(n+1), d("", "5", 0)}, {"5" + o + "e-" + strconv.Itoa(n), d("", "5", 0)},
		} {
			if got, e := Of(x.raw); got != x.want || e != api.OK {
				t.Fatal(x, got, e)
			}
			if got, end, e := Read("-"+x.raw+",", 1); got != x.want || end != 1+len(x.raw) || e != api.OK {
				t.Fatal(x, got, end, e)
			}
			checkDecimal(t, x.want)
		}
	}
}

func TestNought(t *testing.T) {
	for _, whole := range []string{"0", "0.0", "0." + strings.Repeat("0", 300)} {
		for _, power := range []string{"", "e0", "E5", "e+5", "e-5", "e1073741824", "e1073741825", "e-1073741825", "e9223372036854775807", "e9223372036854775808", "e-9223372036854775808", "e-9223372036854775809", "e18446744073709551616", "e" + strings.Repeat("9", 700), "E-" + strings.Repeat("9", 700), "e" + strings.Repeat("0", 700), "e-" + strings.Repeat("0", 700) + "9"} {
			for _, sign := range []string{"", "-"} {
				raw := sign + whole + power
				if got, e := Of(raw); got != d(sign, "", 0) || e != api.OK {
					t.Error(raw, got, e)
				}
				if got, end, e := Read("x"+raw+"-", 1); got != d(sign, "", 0) || end != 1+len(raw) || e != api.OK {
					t.Error(raw, got, end, e)
				}
			}
		}
	}
}

// TestGreatExponents: exponents far beyond the bounds, whose numbers don't wrap round into them.
func TestGreatExponents(t *testing.T) {
	var list []string
	for bits := range 300 {
		x := new(big.Int).Lsh(big.NewInt(1), uint(bits))
		for add := int64(-2); add <= 2; add++ {
			list = append(list, new(big.Int).Add(x, big.NewInt(add)).String())
		}
	}
	x := big.NewInt(1)
	for range 330 {
		x.Mul(x, big.NewInt(10))
		list = append(list, x.String(), new(big.Int).Sub(x, big.NewInt(1)).String(), new(big.Int).Add(x, big.NewInt(5)).String())
	}
	for _, n := range []string{"107374182", "1073741823", "1073741824", "1073741825", "2147483648", "4294967296", "9223372036854775807"} {
		for _, more := range []string{"0", "5", "00", strings.Repeat("0", 20), strings.Repeat("7", 300)} {
			list = append(list, n+more)
		}
	}
	for _, n := range list {
		n = strings.TrimPrefix(n, "-")
		for _, raw := range []string{"1e" + n, "-1e-" + n, "100e" + n, "0.001E+" + n, "7e" + strings.Repeat("0", 400) + n, "7.7e-" + strings.Repeat("0", 400) + n} {
			want, wantE := plainOf(raw)
			if got, e := Of(raw); got != want || e != wantE {
				t.Fatal(raw, got, e, want, wantE)
			}
			if got, end, e := Read(","+raw+",", 1); got != want || end != 1+len(raw) || e != wantE {
				t.Fatal(raw, got, end, e, want, wantE)
			}
		}
	}
}

func TestBounds(t *testing.T) {
	type row struct {
		raw  string
		want api.Decimal
		e    api.Errno
	}
	list := []row{
		{"1e1073741824", d("", "1", 1<<30), api.OK}, {"1e1073741823", d("", "1", 1<<30-1), api.OK}, {"1e1073741825", d("", "", 0), api.ErrBig}, {"-1e+1073741825", d("", "", 0), api.ErrBig},
		{"1e-1073741824", d("", "1", -1<<30), api.OK}, {"1e-1073741825", d("", "", 0), api.ErrBig}, {"-1e-1073741824", d("-", "1", -1<<30), api.OK},
		{"10e1073741823", d("", "1", 1<<30), api.OK}, {"10e1073741824", d("", "", 0), api.ErrBig}, {"1.0e1073741824", d("", "1", 1<<30), api.OK}, {"10.0e1073741824", d("", "", 0), api.ErrBig},
		{"1.5e1073741825", d("", "15", 1<<30), api.OK}, {"1.5e1073741826", d("", "", 0), api.ErrBig}, {"0.1e1073741825", d("", "1", 1<<30), api.OK}, {"0.1e1073741826", d("", "", 0), api.ErrBig},
		{"0.1e-1073741823", d("", "1", -1<<30), api.OK}, {"0.1e-1073741824", d("", "", 0), api.ErrBig}, {"1.5e-1073741823", d("", "15", -1<<30), api.OK}, {"1.5e-1073741824", d("", "", 0), api.ErrBig}, {"1.50e-1073741823", d("", "15", -1<<30), api.OK},
		{"10e-1073741825", d("", "1", -1<<30), api.OK}, {"10e-1073741826", d("", "", 0), api.ErrBig}, {"-120.0e-1073741825", d("-", "12", -1<<30), api.OK}, {"-120.0e-1073741826", d("", "", 0), api.ErrBig},
		{"123e1073741824", d("", "123", 1<<30), api.OK}, {"123e1073741825", d("", "", 0), api.ErrBig},
	}
	for _, n := range []int{1, 100, 1000, 100000} {
		o := strings.Repeat("0", n)
		list = append(list,
			row{"3" + o + "e" + strconv.Itoa(1<<30-n), d("", "3", 1<<30), api.OK}, row{"3" + o + "e" + strconv.Itoa(1<<30-n+1), d("", "", 0), api.ErrBig},
			row{"3" + o + "e-" + strconv.Itoa(1<<30+n), d("", "3", -1<<30), api.OK}, row{"3" + o + "e-" + strconv.Itoa(1<<30+n+1), d("", "", 0), api.ErrBig},
			row{"0." + o + "3e" + strconv.Itoa(1<<30+n+1), d("", "3", 1<<30), api.OK}, row{"0." + o + "3e" + strconv.Itoa(1<<30+n+2), d("", "", 0), api.ErrBig},
			row{"0." + o + "3e-" + strconv.Itoa(1<<30-n-1), d("", "3", -1<<30), api.OK}, row{"0." + o + "3e-" + strconv.Itoa(1<<30-n), d("", "", 0), api.ErrBig},
		)
	}
	for _, x := range list {
		if got, e := Of(x.raw); got != x.want || e != x.e {
			t.Error(x, got, e)
		}
		if got, end, e := Read("12"+x.raw+"-", 2); got != x.want || end != 2+len(x.raw) || e != x.e {
			t.Error(x, got, end, e)
		}
		if x.e == api.OK {
			checkDecimal(t, x.want)
		}
	}
}

// TestBoundsByDigits: the bounds of Exp, reached by the digits alone.
func TestBoundsByDigits(t *testing.T) {
	if testing.Short() {
		t.Skip("texts of 1 GiB")
	}
	great := func(ahead string, noughts int, behind string) string {
		var b strings.Builder
		b.Grow(len(ahead) + noughts + len(behind))
		b.WriteString(ahead)
		for some := strings.Repeat("0", 1<<16); noughts > 0; noughts -= len(some) {
			b.WriteString(some[:min(noughts, len(some))])
		}
		b.WriteString(behind)
		return b.String()
	}
	s := great("7", 1<<30+1, "")
	if got, e := Of(s[:len(s)-1]); got != d("", "7", 1<<30) || e != api.OK {
		t.Error(got, e)
	}
	if got, end, e := Read(s, 0); got != (api.Decimal{}) || end != len(s) || e != api.ErrBig {
		t.Error(got, end, e)
	}
	s = great("0.", 1<<30-1, "71")
	if got, e := Of(s[:len(s)-1]); got != d("", "7", -1<<30) || e != api.OK {
		t.Error(got, e)
	}
	if got, end, e := Read(s, 0); got != (api.Decimal{}) || end != len(s) || e != api.ErrBig {
		t.Error(got, end, e)
	}
}

func TestShapes(t *testing.T) {
	for _, x := range odd {
		if plainFormed(x) {
			t.Fatal("the test is wrong:", x)
		}
		checkDecimal(t, x)
	}
	for _, x := range slices.Concat(far, near()) {
		if !plainFormed(x) {
			t.Fatal("the test is wrong:", x)
		}
		checkDecimal(t, x)
	}
	for _, digits := range short(4, "0159/:") {
		for _, exp := range []int{math.MinInt, -1<<30 - 1, -1 << 30, -1, 0, 1, 1 << 30, 1<<30 + 1, math.MaxInt} {
			checkDecimal(t, d("", digits, exp))
			checkDecimal(t, d("-", digits, exp))
		}
	}
	for x := range 256 {
		one := string([]byte{byte(x)})
		for _, digits := range []string{one, one + "5", "5" + one, "5" + one + "5"} {
			checkDecimal(t, d("", digits, 0))
		}
	}
	long := strings.Repeat("1020304050607080", 1000)
	for _, digits := range []string{long, long + "1", "0" + long + "1", long + "x1", long + "\x80" + "1"} {
		checkDecimal(t, d("-", digits, -7))
	}
}

func TestCmp(t *testing.T) {
	list := near()
	rats := make([]*big.Rat, len(list))
	for i, x := range list {
		rats[i] = plainRat(x)
	}
	for i, a := range list {
		for j, b := range list {
			if n, e := Cmp(a, b); n != rats[i].Cmp(rats[j]) || e != api.OK {
				t.Fatal(a, b, n, e)
			}
		}
	}
}

// rising: decimals each of which is above the one ahead.
var rising = []api.Decimal{
	d("-", "2", 1<<30), d("-", "123", 1<<30-2), d("-", "12", 1<<30-1), d("-", "1", 1<<30), d("-", "9", 1<<30-1), d("-", "1", 5), d("-", "1", -1<<30), d("", "", 0), d("", "1", -1<<30), d("", "2", -1<<30), d("", "9", -1<<30), d("", "1", -1<<30+1), d("", "11", -1<<30), d("", "12", -1<<30),
	d("", "1", -9), d("", "12", 0), d("", "123", -1), d("", "1231", -2), d("", "99", 0), d("", "1", 2), d("", "1", 1<<30-1), d("", "99", 1<<30-2), d("", "1", 1<<30), d("", "10001", 1<<30-4), d("", "11", 1<<30-1), d("", "11", 1<<30), d("", "12345", 1<<30),
}

func TestCmpOrder(t *testing.T) {
	for i, a := range rising {
		for j, b := range rising {
			want := 0
			if i < j {
				want = -1
			} else if i > j {
				want = 1
			}
			if n, e := Cmp(a, b); n != want || e != api.OK {
				t.Error(a, b, n, e)
			}
		}
	}
	noughts := []api.Decimal{d("", "", 0), d("-", "", 0)}
	for _, a := range noughts {
		for _, b := range noughts {
			if n, e := Cmp(a, b); n != 0 || e != api.OK {
				t.Error(a, b, n, e)
			}
		}
		for _, x := range slices.Concat(far, rising) {
			want := 1
			if x.Neg {
				want = -1
			} else if x.Digits == "" {
				want = 0
			}
			if n, e := Cmp(x, a); n != want || e != api.OK {
				t.Error(x, a, n, e)
			}
			if n, e := Cmp(a, x); n != -want || e != api.OK {
				t.Error(a, x, n, e)
			}
		}
	}
}

// TestCmpOfThree: what is below something below a third is below that, and what is the same as something stands to a third as it does.
func TestCmpOfThree(t *testing.T) {
	list := slices.Concat(far, rising, near()[:40], []api.Decimal{d("-", "", 0)})
	cmp := func(a, b api.Decimal) int {
		n, e := Cmp(a, b)
		if e != api.OK {
			t.Fatal(a, b, e)
		}
		return n
	}
	for _, a := range list {
		for _, b := range list {
			ab := cmp(a, b)
			if cmp(b, a) != -ab {
				t.Fatal(a, b)
			}
			for _, c := range list {
				if bc := cmp(b, c); ab*bc >= 0 && cmp(a, c) != max(-1, min(1, ab+bc)) {
					t.Fatal(a, b, c)
				}
			}
		}
	}
}

func TestCmpShape(t *testing.T) {
	for _, x := range odd {
		for _, y := range slices.Concat(odd, far, rising, near()[:6]) {
			for _, pair := range [][2]api.Decimal{{x, y}, {y, x}} {
				if n, e := Cmp(pair[0], pair[1]); n != 0 || e != api.ErrShape {
					t.Error(pair, n, e)
				}
			}
		}
	}
}

// TestOfAndRead: Of answers a decimal just if Read from the first byte on does, up to the last one.
func TestOfAndRead(t *testing.T) {
	r := rule(116)
	check := func(s string) {
		a, e := Of(s)
		b, end, f := Read(s, 0)
		if (e == api.OK) != (f == api.OK && end == len(s)) || e == api.OK && a != b {
			t.Fatal(s, a, e, b, end, f)
		}
	}
	for range 20000 {
		check(r.mixed())
	}
	for _, s := range short(4, "-.eE05 ") {
		check(s)
	}
}

// TestNoughtsChangeNothing: noughts put behind the digits of a point, and ahead of an exponent.
func TestNoughtsChangeNothing(t *testing.T) {
	r := rule(117)
	some := 0
	for range 20000 {
		raw := r.mixed()
		want, e := Of(raw)
		if e != api.OK {
			continue
		}
		some++
		o := strings.Repeat("0", 1+r.next(4))
		at := strings.IndexAny(raw, "eE")
		head, tail := raw, ""
		if at >= 0 {
			head, tail = raw[:at], raw[at:]
		}
		others := []string{head + ".0" + o + tail}
		if strings.Contains(head, ".") {
			others[0] = head + o + tail
		}
		if at >= 0 {
			sign := 1 + len(tail[1:]) - len(strings.TrimLeft(tail[1:], "+-"))
			others = append(others, head+tail[:sign]+o+tail[sign:])
		} else {
			others = append(others, raw+"e"+o, raw+"E+"+o, raw+"e-"+o)
		}
		for _, s := range others {
			if got, e := Of(s); got != want || e != api.OK {
				t.Fatal(raw, want, s, got, e)
			}
		}
	}
	if some < 1000 {
		t.Error("too few numbers:", some)
	}
}

func TestLong(t *testing.T) {
	digits := "1" + strings.Repeat("9876543210", 100000) + "7"
	n := len(digits)
	for _, x := range []struct {
		raw  string
		want api.Decimal
	}{
		{digits, d("", digits, 0)}, {"-" + digits + "000", d("-", digits, 3)}, {digits[:500] + "." + digits[500:], d("", digits, 500-n)}, {"0." + digits + "00e-7", d("", digits, -n-7)}, {"-" + digits + "." + digits + "E+99", d("-", digits+digits, 99-n)},
	} {
		if got, e := Of(x.raw); got != x.want || e != api.OK {
			t.Error(len(x.raw), len(got.Digits), got.Exp, e)
		}
		if got, end, e := Read("["+x.raw+"]", 1); got != x.want || end != 1+len(x.raw) || e != api.OK {
			t.Error(len(x.raw), len(got.Digits), got.Exp, end, e)
		}
		checkDecimal(t, x.want)
	}
	below := digits[:n-1] + "6"
	if c, e := Cmp(d("", digits, 0), d("", below, 0)); c != 1 || e != api.OK {
		t.Error(c, e)
	}
	if c, e := Cmp(d("-", digits, 0), d("-", below, 0)); c != -1 || e != api.OK {
		t.Error(c, e)
	}
	if c, e := Cmp(d("", digits, 0), d("", "1", n)); c != -1 || e != api.OK {
		t.Error(c, e)
	}
	if c, e := Cmp(d("", digits, -n), d("", "1", -1)); c != 1 || e != api.OK {
		t.Error(c, e)
	}
}

// TestMemory: what is answered shares no memory with what came in.
func TestMemory(t *testing.T) {
	shares := func(a, b string) bool {
		from, at := uintptr(unsafe.Pointer(unsafe.StringData(b))), uintptr(unsafe.Pointer(unsafe.StringData(a)))
		return at >= from && at < from+uintptr(len(b))
	}
	for _, raw := range []string{"12", "-12", "1200", "1.2", "0.12", "0.0120", "12e5", "7"} {
		raw := strings.Clone(raw)
		x, e := Of(raw)
		if e != api.OK || shares(x.Digits, raw) {
			t.Error(raw, x, e)
		}
		if s, e := Text(x); e != api.OK || shares(s, x.Digits) || shares(x.Digits, s) {
			t.Error(raw, x, s, e)
		}
	}
}

// TestManyCallers: the same question is answered the same again, whatever else runs.
func TestManyCallers(t *testing.T) {
	var wait sync.WaitGroup
	for range 8 {
		wait.Go(func() {
			r := rule(7)
			for range 2000 {
				s := r.mixed()
				want, wantE := plainOf(s)
				a, e := Of(s)
				b, f := Of(strings.Clone(s))
				if a != want || b != want || e != wantE || f != wantE {
					t.Error(s, a, e, b, f)
				}
				if c, e := Cmp(a, b); c != 0 || e != api.OK {
					t.Error(s, c, e)
				}
			}
		})
	}
	wait.Wait()
}

func ExampleOf() {
	fmt.Println(Of("-12.50"))
	_, e := Of("1.")
	fmt.Println(e == api.ErrNumber)
	// Output:
	// {true 125 -1} 0
	// true
}

func ExampleRead() {
	fmt.Println(Read("[1.5e3,2]", 1))
	// Output: {false 15 2} 6 0
}

func ExampleCmp() {
	a, _ := Of("100")
	b, _ := Of("99.999")
	fmt.Println(Cmp(a, b))
	// Output: 1 0
}

func ExampleText() {
	fmt.Println(Text(api.Decimal{Digits: "125", Exp: -1}))
	// Output: 125e-1 0
}
