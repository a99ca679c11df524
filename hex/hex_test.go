package hex_test

import (
	"bytes"
	stdhex "encoding/hex"
	"math"
	"math/big"
	"slices"
	"strings"
	"testing"

	"shadowbox/hex"
)

// The kinds' bytes, written out, so that no bound of the program's stands here again.
const (
	numbers      = "0123456789"
	hexLetters   = "abcdef"
	smallLetters = "ghijklmnopqrstuvwxyz"
	greatLetters = "ABCDEFGHIJKLMNOPQRSTUVWXYZ"
	top          = 999999999999999999 // the greatest number of eighteen digits
)

// allBytes answers each byte once, in order.
func allBytes() []byte {
	b := make([]byte, 256)
	for i := range b {
		b[i] = byte(i)
	}
	return b
}

// mixed answers n bytes without a plain order, the same ones each time.
func mixed(n int) []byte {
	b := make([]byte, n)
	x := uint32(n) + 1
	for i := range b {
		x = x*1664525 + 1013904223
		b[i] = byte(x >> 24)
	}
	return b
}

func kindOf(c byte) int {
	for i, l := range []string{numbers, hexLetters, smallLetters, greatLetters} {
		if strings.IndexByte(l, c) >= 0 {
			return i + 1
		}
	}
	return 0
}

// plainDecimal takes digit by digit off a number that has no bounds.
func plainDecimal(n int) string {
	rest, ten := new(big.Int).Abs(big.NewInt(int64(n))), big.NewInt(10)
	l := []byte{}
	for len(l) == 0 || rest.Sign() > 0 {
		low := new(big.Int)
		rest.DivMod(rest, ten, low)
		l = append(l, numbers[low.Int64()])
	}
	if n < 0 {
		l = append(l, '-')
	}
	slices.Reverse(l)
	return string(l)
}

// ints are those at which the number of digits, or of bits, changes, and those beside them.
func ints() []int {
	l := []int{0, math.MaxInt, math.MaxInt - 1, math.MinInt, math.MinInt + 1, 1234567890, -1234567890}
	for p, i := 1, 0; i < 19; p, i = p*10, i+1 {
		for d := 1; d <= 9; d++ {
			n := p * d
			l = append(l, n-1, n, n+1, -n-1, -n, -n+1)
		}
	}
	for i := range 63 {
		p := 1 << i
		l = append(l, p-1, p, p+1, -p-1, -p, -p+1)
	}
	return l
}

func TestKind(t *testing.T) { // P4.1: each of the 256 bytes
	counts := [5]int{}
	for _, c := range allBytes() {
		got := hex.Kind(c)
		if got != kindOf(c) {
			t.Errorf("Kind(%02x) = %d, want %d", c, got, kindOf(c))
			continue
		}
		counts[got]++
	}
	if counts != [5]int{256 - 62, 10, 6, 20, 26} {
		t.Errorf("so many of each kind: %d", counts)
	}
}

func TestKindOfEdges(t *testing.T) { // P4.1: both ends of each kind, and what lies beside them
	for _, c := range []struct {
		s    string
		want int
	}{
		{"09", 1}, {"af", 2}, {"gz", 3}, {"AFGZ", 4},
		{"/:@[`{ -.\x00\x7f\x80\xb0\xc1\xe1\xff", 0},
	} {
		for _, b := range []byte(c.s) {
			if got := hex.Kind(b); got != c.want {
				t.Errorf("Kind(%q) = %d, want %d", b, got, c.want)
			}
		}
	}
}

func TestLower(t *testing.T) { // P4.1
	for _, c := range []struct{ s, want string }{
		{"", ""},
		{"A", "a"},
		{"Z", "z"},
		{"Content-Length", "content-length"},
		{"already small 09", "already small 09"},
		{greatLetters, hexLetters + smallLetters},
		{"@AZ[`az{", "@az[`az{"},
		{"\xc3\x84\xc3\x96 A", "\xc3\x84\xc3\x96 a"},                 // Ä and Ö stay
		{"\xe2\x84\xaa K \xc4\xb0", "\xe2\x84\xaa k \xc4\xb0"},       // the kelvin's sign, and a great I with a dot
		{"\xff\x80A\xc0Z\xed\xa0\x80", "\xff\x80a\xc0z\xed\xa0\x80"}, // no UTF-8
		{"\x00A\x00", "\x00a\x00"},
	} {
		if got := hex.Lower(c.s); got != c.want {
			t.Errorf("Lower(%q) = %q, want %q", c.s, got, c.want)
		}
	}
}

func TestLowerOfAllBytes(t *testing.T) { // P4.1: alone, side by side, and those from 128 on
	all := allBytes()
	want := make([]byte, len(all))
	for i, c := range all {
		want[i] = c
		if kindOf(c) == 4 {
			want[i] = c + 32
		}
		if got := hex.Lower(string([]byte{c})); got != string(want[i:i+1]) {
			t.Errorf("Lower of %02x = %x, want %02x", c, got, want[i])
		}
	}
	if got := hex.Lower(string(all)); got != string(want) {
		t.Errorf("Lower of all bytes = %x, want %x", got, want)
	}
	if got := hex.Lower(string(all[128:])); got != string(all[128:]) {
		t.Errorf("Lower of the bytes from 128 on = %x", got)
	}
}

func TestHex(t *testing.T) { // P4.2
	for _, c := range []struct {
		b    []byte
		want string
	}{
		{nil, ""},
		{[]byte{}, ""},
		{[]byte{0x0a, 0xff}, "0aff"},
		{[]byte{0}, "00"},
		{[]byte{0x0f}, "0f"},
		{[]byte{0xf0}, "f0"},
		{[]byte{0x12, 0x34, 0x56, 0x78, 0x9a, 0xbc, 0xde, 0xf0}, "123456789abcdef0"},
		{make([]byte, 40), strings.Repeat("0", 80)},
	} {
		if got := hex.Hex(c.b); got != c.want {
			t.Errorf("Hex(%x) = %s, want %s", c.b, got, c.want)
		}
	}
}

func TestHexOfEachByte(t *testing.T) { // P4.2
	const all = numbers + hexLetters
	for _, c := range allBytes() {
		want := string([]byte{all[c/16], all[c%16]})
		if got := hex.Hex([]byte{c}); got != want {
			t.Errorf("Hex of byte %d = %s, want %s", c, got, want)
		}
	}
	for n := range 300 {
		b := mixed(n)
		if got, want := hex.Hex(b), stdhex.EncodeToString(b); got != want {
			t.Errorf("Hex of %d bytes = %s, want %s", n, got, want)
		}
	}
}

func TestHexLeavesItsBytes(t *testing.T) { // P4.2: nothing is changed, and the spare room is not told
	b := mixed(64)
	was := slices.Clone(b)
	if got, want := hex.Hex(b[:10]), stdhex.EncodeToString(was[:10]); got != want {
		t.Errorf("Hex = %s, want %s", got, want)
	}
	if !bytes.Equal(b, was) {
		t.Error("Hex changed what it was given")
	}
}

func TestReadHex(t *testing.T) { // P4.2
	for _, c := range []struct {
		s    string
		want []byte
	}{
		{"", nil},
		{"0aff", []byte{0x0a, 0xff}},
		{"00", []byte{0}},
		{"0f", []byte{0x0f}},
		{"f0", []byte{0xf0}},
		{"123456789abcdef0", []byte{0x12, 0x34, 0x56, 0x78, 0x9a, 0xbc, 0xde, 0xf0}},
		{strings.Repeat("0", 80), make([]byte, 40)},
	} {
		if got, ok := hex.ReadHex(c.s); !ok || !bytes.Equal(got, c.want) {
			t.Errorf("ReadHex(%q) = %x, %t, want %x", c.s, got, ok, c.want)
		}
	}
}

func TestReadHexOfWrongTexts(t *testing.T) { // P4.2
	for _, s := range []string{
		"0", "f", "0af", "0aff0", strings.Repeat("a", 81), // an odd number of bytes
		"0AFF", "0A", "A0", "aA", "Aa", "FF", "00fF", "00Ff", // great letters
		"0g", "g0", "0aff0g", "0affg0", "g0aff0", "0g0aff", "zz", // small letters that are no digits
		"  ", " 0", "0 ", "0x", "x0", "0xff", "-1", "+1", "0:", "/0", "0@", "`0", "{0", "\x00\x00", "\xff\xff", "0\n", "\xc3\xa4",
		"g", " ", "A", "0af g", // both faults
	} {
		if got, ok := hex.ReadHex(s); ok || len(got) != 0 {
			t.Errorf("ReadHex(%q) = %x, %t, want nothing and false", s, got, ok)
		}
	}
}

func TestReadHexOfEachByte(t *testing.T) { // P4.2: each byte at an even and at an odd place, at both ends and between
	const right = "0123456789abcdef"
	for _, c := range allBytes() {
		digit := strings.IndexByte(right, c)
		for at := range len(right) {
			s := right[:at] + string([]byte{c}) + right[at+1:]
			got, ok := hex.ReadHex(s)
			if digit < 0 {
				if ok || len(got) != 0 {
					t.Errorf("ReadHex(%q) = %x, %t, want nothing and false", s, got, ok)
				}
				continue
			}
			want := []byte{0x01, 0x23, 0x45, 0x67, 0x89, 0xab, 0xcd, 0xef}
			if at%2 == 0 {
				want[at/2] = want[at/2]%16 + byte(16*digit)
			} else {
				want[at/2] = want[at/2]/16*16 + byte(digit)
			}
			if !ok || !bytes.Equal(got, want) {
				t.Errorf("ReadHex(%q) = %x, %t, want %x", s, got, ok, want)
			}
		}
	}
}

func TestReadHexMemory(t *testing.T) { // P4.2: each answer is memory of its own
	first, _ := hex.ReadHex("0aff12")
	second, _ := hex.ReadHex("0aff12")
	for i := range first[:cap(first)] {
		first[:cap(first)][i] = 0x55
	}
	if !bytes.Equal(second, []byte{0x0a, 0xff, 0x12}) {
		t.Errorf("an earlier answer, changed, changed a later one: %x", second)
	}
	third, _ := hex.ReadHex("0aff12")
	if !bytes.Equal(third, []byte{0x0a, 0xff, 0x12}) {
		t.Errorf("an earlier answer, changed, changed what is read later: %x", third)
	}
}

func TestDecimal(t *testing.T) { // P4.3
	for _, c := range []struct {
		n    int
		want string
	}{
		{0, "0"},
		{1, "1"},
		{9, "9"},
		{10, "10"},
		{11, "11"},
		{99, "99"},
		{100, "100"},
		{1234567890, "1234567890"},
		{-1, "-1"},
		{-9, "-9"},
		{-10, "-10"},
		{-1234567890, "-1234567890"},
		{top, "999999999999999999"},
		{top + 1, "1000000000000000000"},
		{math.MaxInt, "9223372036854775807"},
		{math.MinInt + 1, "-9223372036854775807"},
		{math.MinInt, "-9223372036854775808"},
	} {
		if got := hex.Decimal(c.n); got != c.want {
			t.Errorf("Decimal(%d) = %s, want %s", c.n, got, c.want)
		}
	}
	for _, n := range ints() {
		if got, want := hex.Decimal(n), plainDecimal(n); got != want {
			t.Errorf("Decimal(%d) = %s, want %s", n, got, want)
		}
	}
}

func TestReadDecimal(t *testing.T) { // P4.3
	for _, c := range []struct {
		s    string
		want int
	}{
		{"0", 0},
		{"7", 7},
		{"007", 7},
		{"9", 9},
		{"10", 10},
		{"010", 10},
		{"00", 0},
		{"000000000000000000", 0},
		{"000000000000000001", 1},
		{"012345678901234567", 12345678901234567},
		{"123456789012345678", 123456789012345678},
		{"100000000000000000", 100000000000000000},
		{"999999999999999999", top},
	} {
		if got, ok := hex.ReadDecimal(c.s); !ok || got != c.want {
			t.Errorf("ReadDecimal(%q) = %d, %t, want %d", c.s, got, ok, c.want)
		}
	}
}

func TestReadDecimalOfWrongTexts(t *testing.T) { // P4.3
	for _, s := range []string{
		"",
		"1000000000000000000", "0000000000000000000", "0000000000000000001", "9223372036854775807", "9223372036854775808", // nineteen digits
		strings.Repeat("0", 20), strings.Repeat("9", 20), strings.Repeat("1", 1000),
		"-1", "+1", "-0", "+0", "-", "+", "1-", "1+", "--1",
		" 1", "1 ", " ", "1 2", "\t1", "1\n", "1\r\n", "\x001", "1\x00",
		"a", "1a", "a1", "f", "0x1", "1e3", "1.0", "1,0", "1_0", "0b1", "A", "1A",
		"/1", "1/", ":1", "1:", "\xb1", "1\xb1", "\xff1", "\xd9\xa1", "\xef\xbc\x91", // digits of other alphabets
		"99999999999999999x", "x99999999999999999", "-99999999999999999", "1111111111x11111111",
	} {
		if got, ok := hex.ReadDecimal(s); ok || got != 0 {
			t.Errorf("ReadDecimal(%q) = %d, %t, want 0 and false", s, got, ok)
		}
	}
}

func TestReadDecimalOfEachByte(t *testing.T) { // P4.3: each byte alone, at both ends, and between
	for _, c := range allBytes() {
		digit := strings.IndexByte(numbers, c)
		one := string([]byte{c})
		for _, w := range []struct {
			s    string
			want int
		}{{one, digit}, {one + "23", 100*digit + 23}, {"1" + one + "3", 103 + 10*digit}, {"12" + one, 120 + digit}} {
			got, ok := hex.ReadDecimal(w.s)
			if digit >= 0 && (!ok || got != w.want) {
				t.Errorf("ReadDecimal(%q) = %d, %t, want %d", w.s, got, ok, w.want)
			}
			if digit < 0 && (ok || got != 0) {
				t.Errorf("ReadDecimal(%q) = %d, %t, want 0 and false", w.s, got, ok)
			}
		}
	}
}

func TestReadDecimalOfLengths(t *testing.T) { // P4.3: one to eighteen digits, and no others
	for n := range 40 {
		for _, s := range []string{strings.Repeat("0", n), strings.Repeat("9", n), ("1" + strings.Repeat("0", 40))[:n]} {
			got, ok := hex.ReadDecimal(s)
			if ok != (n >= 1 && n <= 18) {
				t.Errorf("ReadDecimal of %d digits answers %t", n, ok)
			}
			if !ok && got != 0 {
				t.Errorf("ReadDecimal(%q) = %d and false", s, got)
			}
		}
	}
}

func TestHexIsRead(t *testing.T) { // P4.4
	for _, b := range [][]byte{nil, allBytes(), make([]byte, 1000), bytes.Repeat([]byte{255}, 1000), mixed(1 << 16)} {
		if got, ok := hex.ReadHex(hex.Hex(b)); !ok || !bytes.Equal(got, b) {
			t.Errorf("Hex of %d bytes is read as %d bytes, %t", len(b), len(got), ok)
		}
	}
	for n := range 300 {
		b := mixed(n)
		s := hex.Hex(b)
		got, ok := hex.ReadHex(s)
		if !ok || !bytes.Equal(got, b) {
			t.Errorf("%s is read as %x, %t", s, got, ok)
		}
		if again := hex.Hex(got); again != s {
			t.Errorf("%s is told again as %s", s, again)
		}
	}
	for i := range 1 << 16 {
		b := []byte{byte(i >> 8), byte(i)}
		if got, ok := hex.ReadHex(hex.Hex(b)); !ok || !bytes.Equal(got, b) {
			t.Fatalf("Hex of %x is read as %x, %t", b, got, ok)
		}
	}
}

func TestDecimalIsRead(t *testing.T) { // P4.4: where P4.3 lets it be read, that is from 0 to eighteen digits
	for _, n := range ints() {
		got, ok := hex.ReadDecimal(hex.Decimal(n))
		if n >= 0 && n <= top {
			if !ok || got != n {
				t.Errorf("Decimal of %d is read as %d, %t", n, got, ok)
			}
			continue
		}
		if ok || got != 0 {
			t.Errorf("Decimal of %d is read as %d, %t, want 0 and false", n, got, ok)
		}
	}
	for n := range 100000 {
		if got, ok := hex.ReadDecimal(hex.Decimal(n)); !ok || got != n {
			t.Fatalf("Decimal of %d is read as %d, %t", n, got, ok)
		}
	}
}
