package codec_test

import (
	"bytes"
	"math"
	"strings"
	"testing"

	"shadowbox/api"
	"shadowbox/codec"
)

const top = math.MaxUint64

// numbers answers those at which a form changes: around each power of two, and both ends.
func numbers() []uint64 {
	l := []uint64{0, 1, 127, 128, 129, 300, 16383, 16384, top - 1, top}
	for i := range 64 {
		p := uint64(1) << i
		l = append(l, p-1, p, p+1, top-p)
	}
	return l
}

func ints() []int {
	l := []int{0, 1, -1, 2, -2, math.MinInt, math.MinInt + 1, math.MaxInt, math.MaxInt - 1}
	for i := range 63 {
		p := 1 << i
		l = append(l, p-1, p, p+1, -p, -p-1, -p+1)
	}
	return l
}

// roomy answers bytes with spare room behind them, and a look at whether anything of both was changed.
func roomy(s string) (b []byte, untouched func() bool) {
	all := append([]byte(s), bytes.Repeat([]byte{0xee}, 64)...)
	want := string(all)
	return all[:len(s)], func() bool { return string(all) == want }
}

// checkOwn: what was handed out shares no memory with what was handed in, and shows nothing of its spare room.
func checkOwn(t *testing.T, what string, got []byte, untouched func() bool) {
	t.Helper()
	if !untouched() {
		t.Errorf("%s: what was handed in was changed", what)
	}
	whole := got[:cap(got)]
	if bytes.IndexByte(whole[len(got):], 0xee) >= 0 {
		t.Errorf("%s: the spare room was handed out", what)
	}
	for i := range whole {
		whole[i] ^= 0x55
	}
	if !untouched() {
		t.Errorf("%s: what was handed out is not memory of its own", what)
	}
}

func TestFixed(t *testing.T) { // P1.1
	const n = 0x8877665544332211
	for _, c := range []struct {
		b    string
		size int
		l    []uint64
		want string
	}{
		{"", 1, nil, ""},
		{"ab", 1, nil, "ab"},
		{"", 1, []uint64{n}, "\x11"},
		{"", 2, []uint64{n}, "\x11\x22"},
		{"", 3, []uint64{n}, "\x11\x22\x33"},
		{"", 4, []uint64{n}, "\x11\x22\x33\x44"},
		{"", 5, []uint64{n}, "\x11\x22\x33\x44\x55"},
		{"", 6, []uint64{n}, "\x11\x22\x33\x44\x55\x66"},
		{"", 7, []uint64{n}, "\x11\x22\x33\x44\x55\x66\x77"},
		{"", 8, []uint64{n}, "\x11\x22\x33\x44\x55\x66\x77\x88"},
		{"a", 2, []uint64{1, 258, 65535, 65536}, "a\x01\x00\x02\x01\xff\xff\x00\x00"},
		{"", 1, []uint64{255, 256, top}, "\xff\x00\xff"},
		{"", 8, []uint64{0, top}, "\x00\x00\x00\x00\x00\x00\x00\x00\xff\xff\xff\xff\xff\xff\xff\xff"},
		{"ab", 0, []uint64{1, 2}, "ab"},
		{"ab", 9, []uint64{1, 2}, "ab"},
		{"ab", -1, []uint64{1, 2}, "ab"},
		{"ab", 16, []uint64{1}, "ab"},
		{"ab", math.MinInt, []uint64{1}, "ab"},
		{"ab", math.MaxInt, []uint64{1}, "ab"},
		{"", 0, []uint64{1}, ""},
	} {
		if got := codec.Fixed([]byte(c.b), c.size, c.l...); string(got) != c.want {
			t.Errorf("Fixed(%q, %d, %d) = %x, want %x", c.b, c.size, c.l, got, c.want)
		}
	}
	if got := codec.Fixed(nil, 2, 7); string(got) != "\x07\x00" {
		t.Errorf("Fixed of nil = %x", got)
	}
	if got := codec.Fixed(nil, 9, 7); len(got) != 0 {
		t.Errorf("Fixed of nil and 9 = %x", got)
	}
}

func TestFixedMemory(t *testing.T) { // P1.1
	for _, size := range []int{-1, 0, 1, 8, 9} {
		b, untouched := roomy("abc")
		checkOwn(t, "Fixed", codec.Fixed(b, size, 1, 2), untouched)
		checkOwn(t, "Fixed of none", codec.Fixed(b, size), untouched)
	}
	l := []uint64{3, 258, top}
	codec.Fixed(nil, 1, l...)
	if l[0] != 3 || l[1] != 258 || l[2] != top {
		t.Errorf("the numbers were changed: %d", l)
	}
}

func TestTake(t *testing.T) { // P1.1
	const s = "\x11\x22\x33\x44\x55\x66\x77\x88\x99"
	for _, c := range []struct {
		b    string
		size int
		n    uint64
		rest string
		ok   bool
	}{
		{s, 1, 0x11, s[1:], true},
		{s, 2, 0x2211, s[2:], true},
		{s, 3, 0x332211, s[3:], true},
		{s, 4, 0x44332211, s[4:], true},
		{s, 5, 0x5544332211, s[5:], true},
		{s, 6, 0x665544332211, s[6:], true},
		{s, 7, 0x77665544332211, s[7:], true},
		{s, 8, 0x8877665544332211, s[8:], true},
		{s[:8], 8, 0x8877665544332211, "", true},
		{"\x07", 1, 7, "", true},
		{strings.Repeat("\xff", 8), 8, top, "", true},
		{s, 0, 0, "", false},
		{s, 9, 0, "", false},
		{s, -1, 0, "", false},
		{s, math.MinInt, 0, "", false},
		{s, math.MaxInt, 0, "", false},
		{"", 0, 0, "", false},
		{"", 1, 0, "", false},
		{s[:1], 2, 0, "", false},
		{s[:7], 8, 0, "", false},
	} {
		n, rest, ok := codec.Take([]byte(c.b), c.size)
		if n != c.n || string(rest) != c.rest || ok != c.ok {
			t.Errorf("Take(%x, %d) = %x, %x, %t, want %x, %x, %t", c.b, c.size, n, rest, ok, c.n, c.rest, c.ok)
		}
	}
	if n, rest, ok := codec.Take(nil, 1); n != 0 || len(rest) != 0 || ok {
		t.Errorf("Take of nil = %d, %x, %t", n, rest, ok)
	}
}

func TestTakeMemory(t *testing.T) { // P1.1
	for size := 1; size <= 8; size++ {
		b, untouched := roomy("abcdefgh" + "ij")
		_, rest, ok := codec.Take(b, size)
		if !ok {
			t.Fatalf("Take of %d: nothing", size)
		}
		checkOwn(t, "Take", rest, untouched)
	}
	b, untouched := roomy("abcdefgh")
	_, rest, _ := codec.Take(b, 8)
	checkOwn(t, "Take of all", rest, untouched)
	// What lies behind the length is not there to be taken.
	b, _ = roomy("abc")
	if n, rest, ok := codec.Take(b, 4); n != 0 || len(rest) != 0 || ok {
		t.Errorf("Take beyond the length = %x, %x, %t", n, rest, ok)
	}
}

func TestShort(t *testing.T) { // P1.2
	for _, c := range []struct {
		n    uint64
		want string
	}{
		{0, "\x00"},
		{1, "\x01"},
		{127, "\x7f"},
		{128, "\x80\x01"},
		{255, "\xff\x01"},
		{300, "\xac\x02"},
		{16383, "\xff\x7f"},
		{16384, "\x80\x80\x01"},
		{1<<56 - 1, "\xff\xff\xff\xff\xff\xff\xff\x7f"},
		{1 << 56, "\x80\x80\x80\x80\x80\x80\x80\x80\x01"},
		{1<<63 - 1, "\xff\xff\xff\xff\xff\xff\xff\xff\x7f"},
		{1 << 63, "\x80\x80\x80\x80\x80\x80\x80\x80\x80\x01"},
		{top, "\xff\xff\xff\xff\xff\xff\xff\xff\xff\x01"},
	} {
		if got := codec.Short(nil, c.n); string(got) != c.want {
			t.Errorf("Short(%d) = %x, want %x", c.n, got, c.want)
		}
		if got := codec.Short([]byte("ab"), c.n); string(got) != "ab"+c.want {
			t.Errorf("Short(ab, %d) = %x", c.n, got)
		}
		b, untouched := roomy("abc")
		checkOwn(t, "Short", codec.Short(b, c.n), untouched)
	}
}

func TestShortIsShortest(t *testing.T) { // P1.2
	for _, n := range numbers() {
		want := 1
		for m := n >> 7; m > 0; m >>= 7 {
			want++
		}
		b := codec.Short(nil, n)
		if len(b) != want {
			t.Errorf("Short(%d) has %d bytes, want %d", n, len(b), want)
		}
		for i, c := range b {
			if (c >= 128) != (i < len(b)-1) {
				t.Errorf("Short(%d) = %x: byte %d", n, b, i)
			}
		}
	}
}

func TestReadShort(t *testing.T) { // P1.2
	nine := strings.Repeat("\xff", 9)
	zeros := strings.Repeat("\x80", 9)
	for _, c := range []struct {
		b    string
		n    uint64
		used int
		e    api.Errno
	}{
		{"\x00", 0, 1, api.OK},
		{"\x7f", 127, 1, api.OK},
		{"\x80\x01", 128, 2, api.OK},
		{"\xac\x02", 300, 2, api.OK},
		{"\xac\x02\xff\xff", 300, 2, api.OK},
		{"\x00\x00", 0, 1, api.OK},
		{"\x05\x80", 5, 1, api.OK},
		{nine[:8] + "\x7f", 1<<63 - 1, 9, api.OK},
		{zeros + "\x01", 1 << 63, 10, api.OK},
		{nine + "\x01", top, 10, api.OK},
		{nine + "\x01\x80", top, 10, api.OK},

		{"", 0, 0, api.ErrEnd},
		{"\x80", 0, 0, api.ErrEnd},
		{"\xff", 0, 0, api.ErrEnd},
		{"\x80\x80", 0, 0, api.ErrEnd},
		{nine[:8], 0, 0, api.ErrEnd},
		{nine, 0, 0, api.ErrEnd},
		{zeros, 0, 0, api.ErrEnd},

		{nine + "\x80", 0, 0, api.ErrForm},
		{nine + "\xff", 0, 0, api.ErrForm},
		{zeros + "\x80", 0, 0, api.ErrForm},
		{zeros + "\x81", 0, 0, api.ErrForm},
		{zeros + "\x80\x80", 0, 0, api.ErrForm},
		{zeros + "\x80\x00", 0, 0, api.ErrForm},
		{zeros + "\x80\x01", 0, 0, api.ErrForm},
		{nine + "\x81\x00", 0, 0, api.ErrForm},
		{nine + "\x02", 0, 0, api.ErrForm},
		{zeros + "\x02", 0, 0, api.ErrForm},
		{nine + "\x03", 0, 0, api.ErrForm},
		{nine + "\x7f", 0, 0, api.ErrForm},
		{"\x80\x00", 0, 0, api.ErrForm},
		{"\xff\x00", 0, 0, api.ErrForm},
		{"\x80\x80\x00", 0, 0, api.ErrForm},
		{"\xac\x82\x00\x01", 0, 0, api.ErrForm},
		{nine[:8] + "\x00", 0, 0, api.ErrForm},
		{nine + "\x00", 0, 0, api.ErrForm},
		{zeros + "\x00", 0, 0, api.ErrForm},
	} {
		b, untouched := roomy(c.b)
		n, used, e := codec.ReadShort(b)
		if n != c.n || used != c.used || e != c.e {
			t.Errorf("ReadShort(%x) = %d, %d, %d, want %d, %d, %d", c.b, n, used, int(e), c.n, c.used, int(c.e))
		}
		if !untouched() {
			t.Errorf("ReadShort(%x): what was handed in was changed", c.b)
		}
	}
	if n, used, e := codec.ReadShort(nil); n != 0 || used != 0 || e != api.ErrEnd {
		t.Errorf("ReadShort of nil = %d, %d, %d", n, used, int(e))
	}
}

func TestText(t *testing.T) { // P1.3
	long := strings.Repeat("x", 128)
	for _, c := range []struct{ b, s, want string }{
		{"", "", "\x00"},
		{"", "ab", "\x02ab"},
		{"z", "ab", "z\x02ab"},
		{"z", "", "z\x00"},
		{"", "\x00\xff\x80", "\x03\x00\xff\x80"},
		{"", long[:127], "\x7f" + long[:127]},
		{"", long, "\x80\x01" + long},
	} {
		b, untouched := roomy(c.b)
		got := codec.Text(b, c.s)
		if string(got) != c.want {
			t.Errorf("Text(%q, %q) = %x, want %x", c.b, c.s, got, c.want)
		}
		checkOwn(t, "Text", got, untouched)
	}
	if got := codec.Text(nil, "ab"); string(got) != "\x02ab" {
		t.Errorf("Text of nil = %x", got)
	}
}

func TestReadText(t *testing.T) { // P1.3
	long := strings.Repeat("x", 128)
	huge := "\xff\xff\xff\xff\xff\xff\xff\xff\xff\x01"
	half := "\x80\x80\x80\x80\x80\x80\x80\x80\x80\x01"
	for _, c := range []struct {
		b    string
		most int
		s    string
		used int
		e    api.Errno
	}{
		{"\x00", 0, "", 1, api.OK},
		{"\x00abc", 0, "", 1, api.OK},
		{"\x02ab", 2, "ab", 3, api.OK},
		{"\x02abc", 2, "ab", 3, api.OK},
		{"\x02abc", math.MaxInt, "ab", 3, api.OK},
		{"\x03\x00\xff\x80", 3, "\x00\xff\x80", 4, api.OK},
		{"\x7f" + long, 127, long[:127], 128, api.OK},
		{"\x80\x01" + long, 128, long, 130, api.OK},

		{"", 9, "", 0, api.ErrEnd},
		{"\x80", 9, "", 0, api.ErrEnd},
		{"\x80\x00", 9, "", 0, api.ErrForm},
		{"\x82\x00ab", 9, "", 0, api.ErrForm},
		{huge[:9] + "\x02", 9, "", 0, api.ErrForm},
		{"", -1, "", 0, api.ErrEnd},
		{"\x80\x00", -1, "", 0, api.ErrForm},

		{"\x03abc", 2, "", 0, api.ErrBig},
		{"\x01a", 0, "", 0, api.ErrBig},
		{"\x03", 2, "", 0, api.ErrBig},
		{"\x80\x01" + long, 127, "", 0, api.ErrBig},
		{"\x00", -1, "", 0, api.ErrBig},
		{"\x02ab", -1, "", 0, api.ErrBig},
		{"\x02ab", math.MinInt, "", 0, api.ErrBig},
		{huge, -1, "", 0, api.ErrBig},
		{huge + "ab", math.MaxInt, "", 0, api.ErrBig},
		{half + "ab", math.MaxInt, "", 0, api.ErrBig},

		{"\x01", 1, "", 0, api.ErrEnd},
		{"\x03ab", 3, "", 0, api.ErrEnd},
		{"\x80\x01" + long[:127], 128, "", 0, api.ErrEnd},
		{"\xff\xff\xff\xff\xff\xff\xff\xff\x7fab", math.MaxInt, "", 0, api.ErrEnd},
	} {
		b, untouched := roomy(c.b)
		s, used, e := codec.ReadText(b, c.most)
		if s != c.s || used != c.used || e != c.e {
			t.Errorf("ReadText(%x, %d) = %q, %d, %d, want %q, %d, %d", c.b, c.most, s, used, int(e), c.s, c.used, int(c.e))
		}
		if !untouched() {
			t.Errorf("ReadText(%x): what was handed in was changed", c.b)
		}
	}
	if s, used, e := codec.ReadText(nil, 1); s != "" || used != 0 || e != api.ErrEnd {
		t.Errorf("ReadText of nil = %q, %d, %d", s, used, int(e))
	}
}

func TestReadTextMemory(t *testing.T) { // P1.3
	b := []byte("\x02ab")
	s, _, _ := codec.ReadText(b, 2)
	b[1], b[2] = 'x', 'y'
	if s != "ab" {
		t.Errorf("the text is not memory of its own: %q", s)
	}
}

func TestZig(t *testing.T) { // P1.4
	for _, c := range []struct {
		n int
		u uint64
	}{
		{0, 0}, {-1, 1}, {1, 2}, {-2, 3}, {2, 4}, {-64, 127}, {64, 128},
		{math.MaxInt, top - 1}, {math.MinInt, top},
		{math.MaxInt - 1, top - 3}, {math.MinInt + 1, top - 2},
	} {
		if u := codec.Zig(c.n); u != c.u {
			t.Errorf("Zig(%d) = %d, want %d", c.n, u, c.u)
		}
		if n := codec.Zag(c.u); n != c.n {
			t.Errorf("Zag(%d) = %d, want %d", c.u, n, c.n)
		}
	}
}

func TestLaidIsRead(t *testing.T) { // P1.5
	for _, n := range numbers() {
		for size := 1; size <= 8; size++ {
			want := n << (64 - 8*size) >> (64 - 8*size)
			got, rest, ok := codec.Take(codec.Fixed(codec.Fixed(nil, size, n), 1, 9), size)
			if got != want || string(rest) != "\x09" || !ok {
				t.Errorf("of %d in %d bytes: %d, %x, %t", n, size, got, rest, ok)
			}
		}
		b := codec.Short(nil, n)
		got, used, e := codec.ReadShort(append(b, 0xff, 0))
		if got != n || used != len(b) || e != api.OK {
			t.Errorf("of Short(%d): %d, %d, %d", n, got, used, int(e))
		}
	}
	for _, size := range []int{0, 1, 2, 126, 127, 128, 129, 16383, 16384} {
		s := strings.Repeat("\xc3", size)
		b := codec.Text(nil, s)
		got, used, e := codec.ReadText(append(b, 1), size)
		if got != s || used != len(b) || e != api.OK {
			t.Errorf("of a text of %d bytes: %d bytes, %d, %d", size, len(got), used, int(e))
		}
	}
}

// checkForm: what is read has no form but the one that Short lays, and no number is told with an error.
func checkForm(t *testing.T, b []byte) {
	n, used, e := codec.ReadShort(b)
	if e != api.OK {
		if n != 0 || used != 0 {
			t.Fatalf("ReadShort(%x) = %d, %d, %d", b, n, used, int(e))
		}
		return
	}
	if used < 1 || used > len(b) || !bytes.Equal(codec.Short(nil, n), b[:used]) {
		t.Fatalf("ReadShort(%x) = %d, %d: Short lays %x", b, n, used, codec.Short(nil, n))
	}
}

func TestOneForm(t *testing.T) { // P1.5
	for i := range 1 << 16 {
		b := []byte{byte(i), byte(i >> 8)}
		checkForm(t, b[:1])
		checkForm(t, b)
		checkForm(t, append(bytes.Repeat([]byte{0x80}, 8), b...))
		checkForm(t, append(bytes.Repeat([]byte{0xff}, 7), b...))
		checkForm(t, append(bytes.Repeat([]byte{0xff}, 9), b...))
	}
}

func TestZagOfZig(t *testing.T) { // P1.5
	for _, n := range ints() {
		if got := codec.Zag(codec.Zig(n)); got != n {
			t.Errorf("Zag of Zig of %d = %d", n, got)
		}
	}
	for _, u := range numbers() {
		if got := codec.Zig(codec.Zag(u)); got != u {
			t.Errorf("Zig of Zag of %d = %d", u, got)
		}
	}
}
