package lanes

import "testing"

// byteAt and signed are the chapter's own words, by division alone, so that a wrong shift or conversion can't agree with itself.
func byteAt(w uint64, i int) int {
	for range i {
		w /= 256
	}
	return int(w % 256)
}

func signed(x int) int {
	if x < 128 {
		return x
	}
	return x - 256
}

func told(w uint64, holds func(x int) bool) uint8 {
	var answer, bit uint8 = 0, 1
	for i := range 8 {
		if holds(byteAt(w, i)) {
			answer += bit
		}
		bit *= 2
	}
	return answer
}

// samples: words with edges beside one another (where carries and borrows would show), each byte alone at each place, and ordinary words from a fixed rule.
func samples() []uint64 {
	ws := []uint64{
		0, 0xffffffffffffffff,
		0x0100010001000100, 0x0001000100010001,
		0x8080808080808080, 0x7f7f7f7f7f7f7f7f, 0x807f807f807f807f, 0x7f807f807f807f80,
		0xff00ff00ff00ff00, 0x00ff00ff00ff00ff,
		0x0102040810204080, 0x8040201008040201,
		0x80ff007f01fe0200, 0x3a39302f2b003130, 0x807f2000ff010002,
	}
	for _, x := range []uint64{1, 2, 34, 127, 128, 129, 254, 255} {
		for i := range 8 {
			ws = append(ws, x<<(8*i), ^(x << (8 * i)))
		}
	}
	w := uint64(1)
	for range 200 {
		w = w*6364136223846793005 + 1442695040888963407
		ws = append(ws, w)
	}
	return ws
}

// edges: the bytes at which an answer turns.
func edges() []byte {
	return []byte{0, 1, 2, 34, 47, 48, 57, 58, 126, 127, 128, 129, 130, 200, 253, 254, 255}
}

// P1.1

func TestLoad(t *testing.T) {
	if got := Load([8]byte{1, 2, 3, 4, 5, 6, 7, 8}); got != 0x0807060504030201 {
		t.Errorf("Load(1 2 3 4 5 6 7 8): %016x", got)
	}
	for i := range 8 {
		for x := range 256 {
			var b [8]byte
			b[i] = byte(x)
			got := Load(b)
			for j := range 8 {
				if byteAt(got, j) != int(b[j]) {
					t.Fatalf("Load(%v): %016x: wrong at the byte %d", b, got, j)
				}
			}
		}
	}
}

func TestStore(t *testing.T) {
	if got := Store(0xff00000000000022); got != [8]byte{34, 0, 0, 0, 0, 0, 0, 255} {
		t.Errorf("Store(ff00000000000022): %v", got)
	}
	for _, w := range samples() {
		got := Store(w)
		for i, x := range got {
			if int(x) != byteAt(w, i) {
				t.Fatalf("Store(%016x): %v: wrong at the element %d", w, got, i)
			}
		}
	}
}

func TestFill(t *testing.T) {
	if got := Fill(34); got != 0x2222222222222222 {
		t.Errorf("Fill(34): %016x", got)
	}
	for c := range 256 {
		got := Fill(byte(c))
		for i := range 8 {
			if byteAt(got, i) != c {
				t.Fatalf("Fill(%d): %016x: wrong at the byte %d", c, got, i)
			}
		}
	}
}

// P1.2

func TestAnswersOfTheExamples(t *testing.T) {
	for _, x := range []struct {
		call      string
		got, want uint8
	}{
		{"Equal(2200220000000022, 34)", Equal(0x2200220000000022, 34), 0b10100001},
		{"Equal(0000000000000100, 0)", Equal(0x0000000000000100, 0), 0b11111101},
		{"Below(807f2000ff010002, 2)", Below(0x807f2000ff010002, 2), 0b00010110},
		{"Below(807f2000ff010002, 0)", Below(0x807f2000ff010002, 0), 0},
		{"Below(0000000000000000, 0)", Below(0, 0), 0},
		{"Below(ffffffffffffffff, 255)", Below(0xffffffffffffffff, 255), 0},
		{"Below(fefffefffefffeff, 255)", Below(0xfefffefffefffeff, 255), 0b10101010},
		{"Between(3a39302f2b003130, 48, 57)", Between(0x3a39302f2b003130, 48, 57), 0b01100011},
		{"Between(3a39302f2b003130, 57, 48)", Between(0x3a39302f2b003130, 57, 48), 0},
		{"Less(80ff007f01fe0200, 0)", Less(0x80ff007f01fe0200, 0), 0b11000100},
		{"Less(80ff007f01fe0200, -128)", Less(0x80ff007f01fe0200, -128), 0},
		{"High(80ff007f01fe0200)", High(0x80ff007f01fe0200), 0b11000100},
	} {
		if x.got != x.want {
			t.Errorf("%s: %08b, not %08b", x.call, x.got, x.want)
		}
	}
}

func TestAnswersOfOneByte(t *testing.T) {
	for _, w := range samples() {
		for c := range 256 {
			b := byte(c)
			if got, want := Equal(w, b), told(w, func(x int) bool { return x == c }); got != want {
				t.Fatalf("Equal(%016x, %d): %08b, not %08b", w, c, got, want)
			}
			if got, want := Below(w, b), told(w, func(x int) bool { return x < c }); got != want {
				t.Fatalf("Below(%016x, %d): %08b, not %08b", w, c, got, want)
			}
			s := c - 128
			if got, want := Less(w, int8(s)), told(w, func(x int) bool { return signed(x) < s }); got != want {
				t.Fatalf("Less(%016x, %d): %08b, not %08b", w, s, got, want)
			}
		}
		if got, want := High(w), told(w, func(x int) bool { return x >= 128 }); got != want {
			t.Fatalf("High(%016x): %08b, not %08b", w, got, want)
		}
	}
}

func TestBetween(t *testing.T) {
	for _, w := range samples() {
		for _, lo := range edges() {
			for _, hi := range edges() {
				want := told(w, func(x int) bool { return int(lo) <= x && x <= int(hi) })
				if got := Between(w, lo, hi); got != want {
					t.Fatalf("Between(%016x, %d, %d): %08b, not %08b", w, lo, hi, got, want)
				}
			}
		}
	}
}

// Equal beside each other byte: what stands next to a byte says nothing of it.
func TestEqualBesideOthers(t *testing.T) {
	for c := range 256 {
		for other := range 256 {
			if other == c {
				continue
			}
			b := [8]byte{byte(other), byte(c), byte(other), byte(other), byte(c), byte(c), byte(other), byte(other)}
			if got := Equal(Load(b), byte(c)); got != 0b00110010 {
				t.Fatalf("Equal of %v and %d: %08b", b, c, got)
			}
		}
	}
}

// P1.3

func TestSum(t *testing.T) {
	if got := Sum(0xffffffffffffffff); got != 2040 {
		t.Errorf("Sum(ffffffffffffffff): %d", got)
	}
	if got := Sum(0x0100000000000002); got != 3 {
		t.Errorf("Sum(0100000000000002): %d", got)
	}
	if got := Sum(0); got != 0 {
		t.Errorf("Sum(0): %d", got)
	}
	for _, w := range samples() {
		want := 0
		for i := range 8 {
			want += byteAt(w, i)
		}
		if got := Sum(w); got != want {
			t.Fatalf("Sum(%016x): %d, not %d", w, got, want)
		}
	}
}

// P1.4

func TestThereAndBack(t *testing.T) {
	for _, w := range samples() {
		if got := Load(Store(w)); got != w {
			t.Fatalf("Load(Store(%016x)): %016x", w, got)
		}
		var b [8]byte
		for i := range b {
			b[i] = byte(byteAt(w, 7-i))
		}
		if got := Store(Load(b)); got != b {
			t.Fatalf("Store(Load(%v)): %v", b, got)
		}
	}
}

func TestThreePartTheEight(t *testing.T) {
	for _, w := range samples() {
		for c := range 256 {
			equal, below, above := Equal(w, byte(c)), Below(w, byte(c)), uint8(0)
			if c < 255 {
				above = Between(w, byte(c)+1, 255)
			}
			if equal|below|above != 255 || equal&below != 0 || equal&above != 0 || below&above != 0 {
				t.Fatalf("%016x and %d: equal %08b, below %08b, above %08b", w, c, equal, below, above)
			}
		}
	}
}

func TestLessIsBelowBy128(t *testing.T) {
	for _, w := range samples() {
		shifted := Store(w)
		for i := range shifted {
			shifted[i] += 128
		}
		for c := range 256 {
			if got, want := Less(w, int8(byte(c))), Below(Load(shifted), byte(c)+128); got != want {
				t.Fatalf("Less(%016x, %d): %08b; Below by 128: %08b", w, int8(byte(c)), got, want)
			}
		}
	}
}

func TestHighIsNotBelow128(t *testing.T) {
	for _, w := range samples() {
		if high, below, less := High(w), Below(w, 128), Less(w, 0); high != ^below || high != less {
			t.Fatalf("%016x: High %08b, Below 128 %08b, Less of 0 %08b", w, high, below, less)
		}
	}
}

func TestSumHangsOnNoOrder(t *testing.T) {
	for _, w := range samples() {
		b, want := Store(w), Sum(w)
		for i := range b {
			for j := range b {
				b[i], b[j] = b[j], b[i]
				if got := Sum(Load(b)); got != want {
					t.Fatalf("%016x as %v: Sum %d, not %d", w, b, got, want)
				}
			}
		}
	}
}

func TestSumOfFill(t *testing.T) {
	for c := range 256 {
		if got := Sum(Fill(byte(c))); got != 8*c {
			t.Fatalf("Sum(Fill(%d)): %d", c, got)
		}
	}
}
