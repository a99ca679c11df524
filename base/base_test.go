package base_test

import (
	"bytes"
	"encoding/base64"
	"math"
	"slices"
	"strings"
	"testing"

	"shadowbox/base"
)

// order is the signs of 0 to 63, as the chapter names them.
var order = func() string {
	var out []byte
	for _, row := range [][2]byte{{'A', 'Z'}, {'a', 'z'}, {'0', '9'}, {'+', '+'}, {'/', '/'}} {
		for c := row[0]; c <= row[1]; c++ {
			out = append(out, c)
		}
	}
	return string(out)
}()

// plain is the chapter's words, bit by bit.
func plain(b []byte) string {
	var out strings.Builder
	for from := 0; from < len(b); from += 3 {
		group := make([]byte, 3)
		got := copy(group, b[from:])
		for sign := range 4 {
			if sign > got {
				out.WriteByte('=')
				continue
			}
			n := 0
			for bit := 6 * sign; bit < 6*sign+6; bit++ {
				n = 2*n + int(group[bit/8]>>(7-bit%8)&1)
			}
			out.WriteByte(order[n])
		}
	}
	return out.String()
}

// mixed answers n bytes without a plain order: the same ones each time.
func mixed(n int) []byte {
	b := make([]byte, n)
	x := uint32(n) + 1
	for i := range b {
		x = x*1664525 + 1013904223
		b[i] = byte(x >> 24)
	}
	return b
}

// none asks that a text is none's.
func none(t *testing.T, s string) {
	t.Helper()
	if b, ok := base.Decode(s); ok || len(b) != 0 {
		t.Errorf("Decode(%q) = %x, %v, want nothing and false", s, b, ok)
	}
}

// read asks that a text is that of these bytes.
func read(t *testing.T, s string, want []byte) {
	t.Helper()
	if b, ok := base.Decode(s); !ok || !bytes.Equal(b, want) {
		t.Errorf("Decode(%q) = %x, %v, want %x and true", s, b, ok, want)
	}
}

func TestSign(t *testing.T) { // P13.1
	if len(order) != 64 {
		t.Fatalf("%d signs", len(order))
	}
	for n := -1000; n <= 1000; n++ {
		var want byte
		if n >= 0 && n < 64 {
			want = order[n]
		}
		if got := base.Sign(n); got != want {
			t.Errorf("Sign(%d) = %q, want %q", n, got, want)
		}
	}
	for n, want := range map[int]byte{0: 'A', 25: 'Z', 26: 'a', 51: 'z', 52: '0', 61: '9', 62: '+', 63: '/'} {
		if got := base.Sign(n); got != want {
			t.Errorf("Sign(%d) = %q, want %q", n, got, want)
		}
	}
	far := []int{math.MinInt, math.MinInt + 1, math.MaxInt - 1, math.MaxInt}
	for bit := 6; bit < 63; bit++ {
		far = append(far, 1<<bit, 1<<bit+1, 1<<bit+63, -1<<bit, -1<<bit+1, -1<<bit+63-128)
	}
	for _, n := range far {
		if got := base.Sign(n); got != 0 {
			t.Errorf("Sign(%d) = %q, want 0", n, got)
		}
	}
}

func TestValue(t *testing.T) { // P13.1
	for i := range 256 {
		want := -1
		for n := range 64 {
			if order[n] == byte(i) {
				want = n
			}
		}
		if got := base.Value(byte(i)); got != want {
			t.Errorf("Value(%q) = %d, want %d", byte(i), got, want)
		}
	}
	for n := range 64 {
		if got := base.Value(base.Sign(n)); got != n {
			t.Errorf("Value(Sign(%d)) = %d", n, got)
		}
	}
	for c, want := range map[byte]int{'A': 0, 'Z': 25, 'a': 26, 'z': 51, '0': 52, '9': 61, '+': 62, '/': 63, '=': -1, 0: -1, '-': -1, '_': -1, 255: -1} {
		if got := base.Value(c); got != want {
			t.Errorf("Value(%q) = %d, want %d", c, got, want)
		}
	}
}

func TestExamples(t *testing.T) { // P13.2, P13.3: the chapter's example, and those of RFC 4648
	for _, c := range [][2]string{
		{"Ma", "TWE="}, {"", ""}, {"f", "Zg=="}, {"fo", "Zm8="}, {"foo", "Zm9v"}, {"foob", "Zm9vYg=="}, {"fooba", "Zm9vYmE="}, {"foobar", "Zm9vYmFy"},
		{"\x00", "AA=="}, {"\x00\x00", "AAA="}, {"\x00\x00\x00", "AAAA"}, {"\xff", "/w=="}, {"\xff\xff", "//8="}, {"\xff\xff\xff", "////"},
		{"\xfb\xef\xbe", "++++"}, {"\xfb", "+w=="}, {"\xfb\xe0", "++A="}, {"\x00\x00\x3e", "AAA+"}, {"\x00\x00\x3f", "AAA/"},
		{"\x14\xfb\x9c\x03\xd9\x7e", "FPucA9l+"}, {"\x14\xfb\x9c\x03\xd9", "FPucA9k="}, {"\x14\xfb\x9c\x03", "FPucAw=="},
	} {
		if got := base.Encode([]byte(c[0])); got != c[1] {
			t.Errorf("Encode(%q) = %q, want %q", c[0], got, c[1])
		}
		read(t, c[1], []byte(c[0]))
	}
	if got := base.Encode(nil); got != "" {
		t.Errorf("Encode(nil) = %q", got)
	}
}

// both asks Encode and Decode of bytes, by the chapter's words and by a base64 that is not the program's.
func both(t *testing.T, b []byte) {
	t.Helper()
	s := base.Encode(b)
	if want := plain(b); s != want {
		t.Fatalf("Encode(%x) = %q, want %q", b, s, want)
	}
	if want := base64.StdEncoding.EncodeToString(b); s != want {
		t.Fatalf("Encode(%x) = %q, want %q", b, s, want)
	}
	if len(s) != 4*((len(b)+2)/3) {
		t.Fatalf("Encode of %d bytes has %d signs", len(b), len(s))
	}
	if again, ok := base.Decode(s); !ok || !bytes.Equal(again, b) {
		t.Fatalf("Decode(%q) = %x, %v, want %x and true", s, again, ok, b)
	}
}

func TestAllShort(t *testing.T) { // P13.2 to P13.4: each one byte, each two bytes, and each byte in each place of longer ones
	for i := range 256 {
		both(t, []byte{byte(i)})
		for j := range 256 {
			both(t, []byte{byte(i), byte(j)})
		}
	}
	for n := 3; n <= 9; n++ {
		for at := range n {
			for c := range 256 {
				zeros, ones, others := make([]byte, n), bytes.Repeat([]byte{255}, n), mixed(n)
				zeros[at], ones[at], others[at] = byte(c), byte(c), byte(c)
				both(t, zeros)
				both(t, ones)
				both(t, others)
			}
		}
	}
}

func TestLengths(t *testing.T) { // P13.2 to P13.4
	for n := range 300 {
		both(t, mixed(n))
		both(t, make([]byte, n))
		both(t, bytes.Repeat([]byte{255}, n))
		both(t, bytes.Repeat([]byte{0xfb, 0xef, 0xbe}, n)[:n])
	}
	for _, n := range []int{999, 1000, 1001, 4095, 4096, 4097, 65535, 65536, 65537, 1 << 20} {
		both(t, mixed(n))
	}
}

func TestDecodeNothing(t *testing.T) { // P13.3: that of no bytes is no text
	if b, ok := base.Decode(""); !ok || len(b) != 0 {
		t.Errorf("Decode of no text = %x, %v", b, ok)
	}
}

func TestDecodeLengths(t *testing.T) { // P13.3: a text whose length is no multiple of four is none's
	for n := range 60 {
		b := mixed(n)
		s := base.Encode(b)
		for cut := range len(s) {
			if cut%4 == 0 {
				read(t, s[:cut], b[:cut/4*3])
			} else {
				none(t, s[:cut])
			}
		}
		for _, more := range []string{"A", "AA", "AAA", "=", "==", "===", "====", "Z===", "\x00"} {
			none(t, s+more)
		}
	}
	for n := 1; n < 40; n++ {
		if s := strings.Repeat("A", n); n%4 != 0 {
			none(t, s)
		} else {
			read(t, s, make([]byte, n/4*3))
		}
	}
}

func TestDecodeFillers(t *testing.T) { // P13.3: = in each place, alone and behind whole groups
	for n := 1; n < 12; n++ {
		none(t, strings.Repeat("=", n))
		none(t, "TWFu"+strings.Repeat("=", n))
		none(t, "TWFuTWFu"+strings.Repeat("=", n))
		none(t, "TQ=="+strings.Repeat("=", n))
		none(t, "TWE="+strings.Repeat("=", n))
	}
	for places := range 1 << 8 {
		s := []byte("AAAAAAAA")
		for at := range s {
			if places>>at&1 == 1 {
				s[at] = '='
			}
		}
		switch places {
		case 0:
			read(t, string(s), make([]byte, 6))
		case 1 << 7:
			read(t, string(s), make([]byte, 5))
		case 3 << 6:
			read(t, string(s), make([]byte, 4))
		default:
			none(t, string(s))
		}
	}
	for _, s := range []string{
		"TWE=TWFu", "TQ==TWFu", "TWE=A", "TQ==A", "TQ=A", "T=E=", "=WE=", "TWE", "TQ=", "TQ", "T", "T===", "TW=u", "T=Fu", "=WFu", "TWE=TWE=", "TQ==TQ==", "A===", "AA=A", "AAA=AAAA", "TWE=\n", "\nTWE=", "TQ=\n=",
	} {
		none(t, s)
	}
}

func TestDecodeNoSigns(t *testing.T) { // P13.3: a byte that is no sign in each place
	for _, good := range []string{"TWFu", "TWE=", "TQ==", "TWFuTWFu", "TWFuTWE=", "TWFuTQ=="} {
		for at := range len(good) {
			for c := range 256 {
				s := []byte(good)
				s[at] = byte(c)
				want, e := base64.StdEncoding.Strict().DecodeString(string(s))
				// The library reads over the ends of lines; the chapter's words do not.
				if e == nil && base64.StdEncoding.EncodeToString(want) == string(s) {
					read(t, string(s), want)
				} else {
					none(t, string(s))
				}
				if strings.IndexByte(order, byte(c)) < 0 && byte(c) != '=' {
					none(t, string(s))
					none(t, good[:at]+string(s[at:at+1])+good[at:])
				}
			}
		}
	}
	for _, gap := range []string{" ", "\n", "\r\n", "\t", "\x00", "    ", "\n\n\n\n", "é", "éé", "\xff\xfe\xfd\xfc", "-", "_", "----", "A é", "A\nAA", "ＡＡ"} {
		for _, good := range []string{"", "TWFu", "TWE=", "TQ=="} {
			none(t, good+gap)
			none(t, gap+good)
		}
	}
	none(t, "-___")
	none(t, "TWFu TWFu")
	none(t, "TWFu\nTWFu")
	none(t, "TWFu\r\nTWFu\r\n")
}

func TestDecodeBitsBehind(t *testing.T) { // P13.3: the bits behind the last whole byte are zero
	for _, ahead := range []string{"", "TWFu", "TWFuTWFu"} {
		for first := range 64 {
			for second := range 64 {
				s := ahead + order[first:first+1] + order[second:second+1] + "=="
				if second%16 == 0 {
					read(t, s, append(bytes.Repeat([]byte("Man"), len(ahead)/4), byte(first<<2|second>>4)))
				} else {
					none(t, s)
				}
				for third := range 64 {
					s := ahead + order[first:first+1] + order[second:second+1] + order[third:third+1] + "="
					if third%4 == 0 {
						read(t, s, append(bytes.Repeat([]byte("Man"), len(ahead)/4), byte(first<<2|second>>4), byte(second<<4|third>>2)))
					} else {
						none(t, s)
					}
				}
			}
		}
	}
}

func TestDecodeAllShort(t *testing.T) { // P13.3, P13.4: of all rows of a few bytes those are read that are encoded again as they were
	few := []byte{'A', 'Q', 'g', 'w', '8', 'B', '/', '+', '=', '\n', ' ', 0, 200}
	for n := range 6 {
		row := make([]int, n)
		for {
			s := make([]byte, n)
			for i, at := range row {
				s[i] = few[at]
			}
			want, e := base64.StdEncoding.DecodeString(string(s))
			if e == nil && plain(want) == string(s) {
				read(t, string(s), want)
				if got := base.Encode(want); got != string(s) {
					t.Errorf("Encode(%x) = %q, want %q", want, got, s)
				}
			} else {
				none(t, string(s))
			}
			i := 0
			for i < n && row[i] == len(few)-1 {
				row[i] = 0
				i++
			}
			if i == n {
				break
			}
			row[i]++
		}
	}
}

func TestLongWrong(t *testing.T) { // P13.3: one wrong byte in a long text is enough, wherever it is
	for _, n := range []int{3000, 3001, 3002} {
		b := mixed(n)
		s := base.Encode(b)
		for at := 0; at < len(s); at += 7 {
			for _, c := range []byte{' ', '\n', '=', 0, '-', 255} {
				if s[at] != c {
					none(t, s[:at]+string([]byte{c})+s[at+1:])
				}
			}
			none(t, s[:at]+s[at+1:])
		}
	}
}

func TestMemory(t *testing.T) { // P13.2, P13.3: what is handed in is left as it was, its spare room is not read, and what is handed out is new
	for n := range 20 {
		room := bytes.Repeat([]byte{0xee}, n+9)
		copy(room[3:], mixed(n))
		kept := slices.Clone(room)
		s := base.Encode(room[3 : 3+n])
		if !bytes.Equal(room, kept) {
			t.Errorf("Encode of %d bytes wrote on what it was handed", n)
		}
		if s != plain(mixed(n)) {
			t.Errorf("Encode of %d bytes with room behind = %q", n, s)
		}
		clear(room)
		if s != plain(mixed(n)) {
			t.Errorf("Encode of %d bytes shares what it was handed", n)
		}
		one, _ := base.Decode(s)
		two, _ := base.Decode(s)
		whole := one[:cap(one)]
		for i := range whole {
			whole[i] = 0x55
		}
		if !bytes.Equal(two, mixed(n)) || s != plain(mixed(n)) {
			t.Errorf("two answers of Decode(%q) share memory", s)
		}
		read(t, s, mixed(n))
	}
}
