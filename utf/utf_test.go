package utf_test

import (
	"bytes"
	"math"
	"strings"
	"testing"
	"unicode/utf8"

	"shadowbox/utf"
)

const (
	gap   = "\xef\xbf\xbd"
	great = 0x10ffff
)

// edges are the numbers at which a form begins or ends, and what lies around them.
var edges = []rune{
	math.MinInt32, math.MinInt32 + 1, -great, -0x10000, -0xd800, -0x800, -0x80, -2, -1,
	0, 1, 0x3f, 0x40, 0x41, 0x7e, 0x7f, 0x80, 0x81, 0xbf, 0xc0, 0xe9, 0xff, 0x100, 0x7bf, 0x7c0, 0x7fe, 0x7ff, 0x800, 0x801, 0xfff, 0x1000, 0x20ac,
	0xd7fe, 0xd7ff, 0xd800, 0xd801, 0xdbff, 0xdc00, 0xdffe, 0xdfff, 0xe000, 0xe001, 0xfeff, 0xfffc, 0xfffd, 0xfffe, 0xffff,
	0x10000, 0x10001, 0x1f600, 0x3ffff, 0x40000, 0xfffff, 0x100000, great - 1, great, great + 1, 0x110001, 0x13ffff, 0x140000, 0x1fffff, 0x200000, 0x3ffffff, 0x4000000, math.MaxInt32 - 1, math.MaxInt32,
}

// pieces are characters of each number of bytes, and bytes that are none's, cut short ones among them.
var pieces = []string{
	"", "a", "\x00", "\x7f", "é", "\u0080", "߿", "€", "\u0800", "\ud7ff", "\ue000", gap, "\uffff", "😀", "\U00010000", "\U0010ffff",
	"\x80", "\xbf", "\xc0", "\xc0\x80", "\xc1\xbf", "\xc3", "\xe0\x80\x80", "\xe0\x9f\xbf", "\xe2", "\xe2\x82", "\xed\xa0\x80", "\xed\xbf\xbf",
	"\xf0\x80\x80\x80", "\xf0\x8f\xbf\xbf", "\xf0\x9f", "\xf0\x9f\x98", "\xf4\x90\x80\x80", "\xf5\x80\x80\x80", "\xf8\x88\x80\x80\x80", "\xfe", "\xff",
}

func isCharacter(c rune) bool { return c >= 0 && c <= great && (c < 0xd800 || c > 0xdfff) }

// form is the chapter's words: the bytes of a character; none, if it is none.
func form(c rune) string {
	lowest, next, upper := 128+c%64, 128+c/64%64, 128+c/4096%64
	switch {
	case !isCharacter(c):
		return ""
	case c <= 0x7f:
		return string([]byte{byte(c)})
	case c <= 0x7ff:
		return string([]byte{byte(192 + c/64), byte(lowest)})
	case c <= 0xffff:
		return string([]byte{byte(224 + c/4096), byte(next), byte(lowest)})
	}
	return string([]byte{byte(240 + c/262144), byte(upper), byte(next), byte(lowest)})
}

// first is the chapter's words: the character whose form a text begins with. The number that the bytes would tell is asked for its form, which judges them.
func first(s string) (rune, int) {
	for n := 1; n <= 4 && n <= len(s); n++ {
		c := rune(s[0]) - []rune{0, 0, 192, 224, 240}[n]
		for i := 1; i < n; i++ {
			c = 64*c + rune(s[i]) - 128
		}
		if isCharacter(c) && form(c) == s[:n] {
			return c, n
		}
	}
	return 0, 0
}

// plain is what Count and Clean tell of a text, by first.
func plain(s string) (count int, clean string) {
	var out strings.Builder
	right := true
	for s != "" {
		_, n := first(s)
		if n == 0 {
			out.WriteString(gap)
			right, n = false, 1
		} else {
			out.WriteString(s[:n])
		}
		count++
		s = s[n:]
	}
	if !right {
		count = -1
	}
	return count, out.String()
}

func next(t *testing.T, s string, want rune, used int) {
	t.Helper()
	if c, n := utf.Next(s); c != want || n != used {
		t.Errorf("Next(%x) = %x, %d, want %x, %d", brief(s), c, n, want, used)
	}
}

// brief is as much of a text as is told of a failure.
func brief(s string) string { return s[:min(len(s), 64)] }

func put(t *testing.T, b string, c rune, want string) {
	t.Helper()
	if got := utf.Put([]byte(b), c); string(got) != want {
		t.Errorf("Put(%x, %x) = %x, want %x", brief(b), c, brief(string(got)), brief(want))
	}
}

// whole asks all that can be asked of a text: whether it is right, how many characters it has, and its clean text.
func whole(t *testing.T, s string) {
	t.Helper()
	count, clean := plain(s)
	texts(t, s, count, clean)
	c, n := first(s)
	next(t, s, c, n)
	// The library is not the program's: it stands for the test's own words.
	if right := utf8.ValidString(s); right != (count >= 0) || right && utf8.RuneCountInString(s) != count || string([]rune(s)) != clean {
		t.Errorf("of %x the library thinks otherwise", brief(s))
	}
}

// texts asks for these answers, and for P14.4: a clean text is right, and stays as it is.
func texts(t *testing.T, s string, count int, clean string) {
	t.Helper()
	if got := utf.Right(s); got != (count >= 0) {
		t.Errorf("Right(%x) = %v", brief(s), got)
	}
	if got := utf.Count(s); got != count {
		t.Errorf("Count(%x) = %d, want %d", brief(s), got, count)
	}
	got := utf.Clean(s)
	if got != clean {
		t.Errorf("Clean(%x) = %x, want %x", brief(s), brief(got), brief(clean))
	}
	if count >= 0 && got != s {
		t.Errorf("Clean(%x) = %x: a right text has changed", brief(s), brief(got))
	}
	if !utf.Right(got) || utf.Clean(got) != got || utf.Count(got) < 0 {
		t.Errorf("Clean(%x) = %x, which is not right", brief(s), brief(got))
	}
}

func TestExamples(t *testing.T) { // P14.1, P14.3: the chapter's, and those of RFC 3629
	next(t, "\xc3\xa9", 0xe9, 2)
	texts(t, "\xff", -1, gap)
	for _, s := range []string{"\x41\xe2\x89\xa2\xce\x91\x2e", "\xed\x95\x9c\xea\xb5\xad\xec\x96\xb4", "\xe6\x97\xa5\xe6\x9c\xac\xe8\xaa\x9e", "\xef\xbb\xbf\xf0\xa3\x8e\xb4"} {
		whole(t, s)
	}
	texts(t, "\x41\xe2\x89\xa2\xce\x91\x2e", 4, "A≢Α.")
	next(t, "\xef\xbb\xbf\xf0\xa3\x8e\xb4", 0xfeff, 3)
	next(t, "\xf0\xa3\x8e\xb4", 0x233b4, 4)
}

func TestForms(t *testing.T) { // P14.1: at the ends of each number of bytes
	for _, c := range []struct {
		c    rune
		want string
	}{
		{0, "\x00"}, {'a', "a"}, {0x7f, "\x7f"},
		{0x80, "\xc2\x80"}, {0xbf, "\xc2\xbf"}, {0xc0, "\xc3\x80"}, {0xe9, "\xc3\xa9"}, {0x7ff, "\xdf\xbf"},
		{0x800, "\xe0\xa0\x80"}, {0xfff, "\xe0\xbf\xbf"}, {0x1000, "\xe1\x80\x80"}, {0x20ac, "\xe2\x82\xac"}, {0xd7ff, "\xed\x9f\xbf"},
		{0xe000, "\xee\x80\x80"}, {0xfffd, gap}, {0xfffe, "\xef\xbf\xbe"}, {0xffff, "\xef\xbf\xbf"},
		{0x10000, "\xf0\x90\x80\x80"}, {0x1f600, "\xf0\x9f\x98\x80"}, {0x3ffff, "\xf0\xbf\xbf\xbf"}, {0x40000, "\xf1\x80\x80\x80"},
		{0xfffff, "\xf3\xbf\xbf\xbf"}, {0x100000, "\xf4\x80\x80\x80"}, {great, "\xf4\x8f\xbf\xbf"},
	} {
		put(t, "", c.c, c.want)
		put(t, "ab", c.c, "ab"+c.want)
		next(t, c.want, c.c, len(c.want))
		texts(t, c.want, 1, c.want)
	}
	for _, c := range []rune{-1, -2, -0x80, -0x7fffffff, math.MinInt32, 0xd800, 0xd801, 0xdbff, 0xdc00, 0xdfff, 0x110000, 0x110001, 0x1fffff, 0x200000, math.MaxInt32} {
		put(t, "", c, "")
		put(t, "ab", c, "ab")
		put(t, "\xff", c, "\xff")
	}
}

func TestPutAll(t *testing.T) { // P14.1, P14.4: each number up to beyond the greatest character, many below 0, and those far away
	one := func(c rune) {
		want := form(c)
		if got := utf.Put(nil, c); string(got) != want {
			t.Fatalf("Put(nil, %x) = %x, want %x", c, got, want)
		}
		if utf8.ValidRune(c) != (want != "") || want != "" && want != string(c) {
			t.Fatalf("of %x the library thinks otherwise", c)
		}
		if want == "" {
			return
		}
		for _, behind := range []string{"", "a", "\x80", "\xbf", "\xff"} {
			if got, n := utf.Next(want + behind); got != c || n != len(want) {
				t.Fatalf("Next(%x) = %x, %d, want %x, %d", want+behind, got, n, c, len(want))
			}
		}
		if !utf.Right(want) || utf.Count(want) != 1 || utf.Clean(want) != want {
			t.Fatalf("%x, the form of %x, is not right", want, c)
		}
	}
	for c := rune(-0x1200); c < 0x120000; c++ {
		one(c)
	}
	for _, c := range edges {
		one(c)
	}
	for bit := range 31 {
		for _, c := range []rune{1 << bit, 1<<bit - 1, 1<<bit + 1, -1 << bit, -1<<bit - 1, -1<<bit + 1, great + 1<<bit, math.MaxInt32 - 1<<bit, math.MinInt32 + 1<<bit} {
			one(c)
		}
	}
}

func TestPutBehind(t *testing.T) { // P14.1: behind bytes of any kind, which stay as they are
	if got := utf.Put(nil, -1); len(got) != 0 {
		t.Errorf("Put(nil, -1) = %x", got)
	}
	if got := utf.Put(nil, 'a'); string(got) != "a" {
		t.Errorf("Put(nil, a) = %x", got)
	}
	long := strings.Repeat("\xe2\x82", 2000)
	for _, ahead := range append([]string{long}, pieces...) {
		for _, c := range edges {
			put(t, ahead, c, ahead+form(c))
		}
	}
	var b []byte
	want := ""
	for _, c := range edges {
		b = utf.Put(b, c)
		want += form(c)
	}
	if string(b) != want {
		t.Errorf("one Put behind the other is %x, want %x", b, want)
	}
}

func TestPutMemory(t *testing.T) { // P14.1: what is handed in is left as it was, its spare room too, and what is handed out is new
	for _, ahead := range []string{"", "a", "ab", "é€", "\xff"} {
		for room := range 9 {
			for _, c := range edges {
				all := append([]byte(ahead), bytes.Repeat([]byte{0xee}, room)...)
				kept := string(all)
				got := utf.Put(all[:len(ahead)], c)
				if string(got) != ahead+form(c) {
					t.Errorf("Put(%x, %x) with %d bytes of room = %x", ahead, c, room, got)
				}
				other := utf.Put(all[:len(ahead)], c)
				spare := got[:cap(got)]
				if bytes.IndexByte(spare[len(got):], 0xee) >= 0 {
					t.Errorf("Put(%x, %x) hands out the spare room", ahead, c)
				}
				for i := range spare {
					spare[i] ^= 0x55
				}
				if string(all) != kept {
					t.Errorf("Put(%x, %x) writes on what it was handed, or shares it", ahead, c)
				}
				clear(all)
				if string(other) != ahead+form(c) {
					t.Errorf("two answers of Put(%x, %x) share memory", ahead, c)
				}
			}
		}
	}
}

func TestNothing(t *testing.T) { // P14.1 to P14.3: no text at all
	next(t, "", 0, 0)
	texts(t, "", 0, "")
}

func TestNextZero(t *testing.T) { // P14.1: the character 0 has one byte, where none has no bytes
	next(t, "\x00", 0, 1)
	next(t, "\x00\xff", 0, 1)
	next(t, "\xff\x00", 0, 0)
	texts(t, "\x00\x00", 2, "\x00\x00")
}

func TestNextShort(t *testing.T) { // P14.1: all texts of one byte, of two and of three
	var wrong int
	b := make([]byte, 3)
	for n := range 1 << 24 {
		b[0], b[1], b[2] = byte(n>>16), byte(n>>8), byte(n)
		s := string(b)
		c, used := utf.Next(s)
		want, size := utf8.DecodeRuneInString(s)
		if want == utf8.RuneError && size == 1 {
			want, size = 0, 0
		}
		if c != want || used != size {
			wrong++
			if wrong < 10 {
				t.Errorf("Next(%x) = %x, %d, want %x, %d", s, c, used, want, size)
			}
		}
	}
	for i := range 256 {
		whole(t, string([]byte{byte(i)}))
		for j := range 256 {
			whole(t, string([]byte{byte(i), byte(j)}))
		}
	}
}

// around are bytes of each kind, and the ends of each kind.
var around = []byte{0, 1, 0x3f, 0x40, 0x7e, 0x7f, 0x80, 0x81, 0x8e, 0x8f, 0x90, 0x91, 0x9e, 0x9f, 0xa0, 0xa1, 0xbe, 0xbf, 0xc0, 0xc1, 0xc2, 0xdf, 0xe0, 0xed, 0xef, 0xf0, 0xf4, 0xf5, 0xf8, 0xfe, 0xff}

func TestNextLonger(t *testing.T) { // P14.1: each first byte of many and each second one, with bytes of each kind behind them
	for i := 0xe0; i < 0x100; i++ {
		for j := range 256 {
			for _, third := range around {
				for _, fourth := range []byte{0, 0x7f, 0x80, 0xbf, 0xc0, 0xff} {
					s := string([]byte{byte(i), byte(j), third, fourth})
					c, n := first(s)
					next(t, s, c, n)
				}
			}
		}
	}
	for i := 0xc0; i < 0x100; i++ {
		for _, second := range around {
			for _, third := range around {
				whole(t, string([]byte{byte(i), second, third, 0x80}))
				whole(t, string([]byte{byte(i), second, third, 0x80, 0xbf}))
			}
		}
	}
}

func TestAlone(t *testing.T) { // P14.1 to P14.3: bytes that none begins with
	for i := 0x80; i < 0x100; i++ {
		s := string([]byte{byte(i)})
		next(t, s, 0, 0)
		texts(t, s, -1, gap)
		if i >= 0xc2 && i <= 0xf4 {
			continue
		}
		for _, behind := range []string{"a", "\x80", "\xbf", "\x80\x80", "\xbf\xbf", "\xa9\xa9\xa9", "\x80\x80\x80", "\x80\x80\x80\x80", "\x80\x80\x80\x80\x80", "é", "😀"} {
			next(t, s+behind, 0, 0)
			whole(t, s+behind)
		}
	}
}

func TestCut(t *testing.T) { // P14.1 to P14.3: each first byte with too few bytes behind it, or with one that does not go on
	for i := 0xc2; i <= 0xf4; i++ {
		n := 2
		if i >= 0xe0 {
			n = 3
		}
		if i >= 0xf0 {
			n = 4
		}
		s := append([]byte{byte(i)}, "\x80\x80\x80"[:n-1]...)
		switch i {
		case 0xe0:
			s[1] = 0xa0
		case 0xf0:
			s[1] = 0x90
		}
		if c, used := utf.Next(string(s)); used != n || form(c) != string(s) {
			t.Errorf("Next(%x) = %x, %d", s, c, used)
		}
		for have := 1; have < n; have++ {
			next(t, string(s[:have]), 0, 0)
			texts(t, string(s[:have]), -1, strings.Repeat(gap, have))
			texts(t, "a"+string(s[:have]), -1, "a"+strings.Repeat(gap, have))
			for c := range 256 {
				if c >= 0x80 && c < 0xc0 {
					continue
				}
				turned := append([]byte{}, s...)
				turned[have] = byte(c)
				next(t, string(turned), 0, 0)
				whole(t, string(turned))
				whole(t, string(s[:have])+string([]byte{byte(c)})+string(s))
			}
			texts(t, string(s[:have])+"a", -1, strings.Repeat(gap, have)+"a")
			texts(t, string(s[:have])+string(s), -1, strings.Repeat(gap, have)+string(s))
		}
	}
}

// asForm lays a number in so many bytes, whether it is its form or not.
func asForm(c, n int) string {
	b := make([]byte, n)
	for i := n - 1; i > 0; i-- {
		b[i] = byte(0x80 + c%64)
		c /= 64
	}
	b[0] = []byte{0, 0, 0xc0, 0xe0, 0xf0, 0xf8, 0xfc}[n] + byte(c)
	return string(b)
}

func TestOtherForms(t *testing.T) { // P14.1 to P14.3: forms that are too long, those of the halves, and those of what is too great
	none := func(c, n int) {
		s := asForm(c, n)
		if got, used := utf.Next(s); got != 0 || used != 0 {
			t.Fatalf("Next(%x) = %x, %d, want none: it is %x in %d bytes", s, got, used, c, n)
		}
		if utf.Right(s) || utf.Count(s) != -1 || utf.Clean(s) != strings.Repeat(gap, n) {
			t.Fatalf("%x: %v, %d, %x: it is %x in %d bytes", s, utf.Right(s), utf.Count(s), utf.Clean(s), c, n)
		}
	}
	for c := range 0x80 {
		none(c, 2)
	}
	for c := range 0x800 {
		none(c, 3)
	}
	for c := range 0x10000 {
		none(c, 4)
	}
	for c := 0xd800; c <= 0xdfff; c++ {
		none(c, 3)
	}
	for c := 0x110000; c <= 0x1fffff; c++ {
		none(c, 4)
	}
	for _, c := range []int{0, 1, 0x7f, 0x80, 0x7ff, 0x800, 0xd800, 0xffff, 0x10000, great, 0x1fffff, 0x200000, 0x3fffff, 0x3ffffff} {
		none(c, 5)
		none(c, 6)
	}
	none(0x7fffffff, 6)
	for s, n := range map[string]int{
		"\xc0\x80": 2, "\xc0\xaf": 2, "\xc1\xbf": 2, "\xe0\x80\x80": 3, "\xe0\x80\xaf": 3, "\xe0\x9f\xbf": 3, "\xed\xa0\x80": 3, "\xed\xbf\xbf": 3,
		"\xed\xa1\x8c\xed\xbe\xb4": 6, "\xf0\x80\x80\x80": 4, "\xf0\x80\x80\xaf": 4, "\xf0\x8f\xbf\xbf": 4, "\xf4\x90\x80\x80": 4, "\xf5\x80\x80\x80": 4, "\xf7\xbf\xbf\xbf": 4,
	} {
		next(t, s, 0, 0)
		texts(t, s, -1, strings.Repeat(gap, n))
		texts(t, "a"+s+"é", -1, "a"+strings.Repeat(gap, n)+"é")
	}
}

func TestCleanPlaces(t *testing.T) { // P14.3: wrong bytes in each place of a text
	text := []string{"a", "é", "€", "😀", "\x00", gap, "z"}
	for at := range len(text) + 1 {
		ahead, behind := strings.Join(text[:at], ""), strings.Join(text[at:], "")
		for _, wrong := range []string{"\xff", "\x80", "\xc0\x80", "\xe2\x82", "\xed\xa0\x80", "\xf0\x9f\x98", "\xf4\x90\x80\x80", "\xc3", "\xf5\x80", "\xbf\xbf\xbf\xbf\xbf"} {
			want := ahead + strings.Repeat(gap, len(wrong)) + behind
			texts(t, ahead+wrong+behind, -1, want)
			whole(t, ahead+wrong+behind)
		}
	}
	all := strings.Join(text, "")
	texts(t, all, len(text), all)
	for at := range len(all) {
		whole(t, all[:at])
		whole(t, all[at:])
		whole(t, all[:at]+all[at+1:])
		for c := range 256 {
			b := []byte(all)
			b[at] = byte(c)
			whole(t, string(b))
			whole(t, all[:at]+string([]byte{byte(c)})+all[at:])
		}
	}
}

func TestRows(t *testing.T) { // P14.1 to P14.4: characters and what is none, one behind the other
	for _, a := range pieces {
		for _, b := range pieces {
			for _, c := range pieces {
				whole(t, a+b+c)
			}
			whole(t, a+b+a+b)
		}
	}
}

func TestCountMany(t *testing.T) { // P14.2, P14.3: how many characters, not how many bytes
	for _, s := range []string{"a", "é", "€", "😀", gap, "\x00", "a€", "😀é"} {
		for n := range 70 {
			texts(t, strings.Repeat(s, n), n*utf8.RuneCountInString(s), strings.Repeat(s, n))
			texts(t, strings.Repeat(s, n)+"\xff", -1, strings.Repeat(s, n)+gap)
			texts(t, "\xe2"+strings.Repeat(s, n), -1, gap+strings.Repeat(s, n))
		}
	}
	if n := utf.Count("a\xff"); n != -1 {
		t.Errorf("Count of a text that is not right = %d", n)
	}
}

func TestLong(t *testing.T) { // P14.2 to P14.4: all characters in one text, and long texts of no plain order
	var all strings.Builder
	many := 0
	for c := range rune(great + 1) {
		if isCharacter(c) {
			all.WriteString(form(c))
			many++
		}
	}
	texts(t, all.String(), many, all.String())
	texts(t, all.String()+"\x80", -1, all.String()+gap)
	s, want := all.String(), rune(0)
	for s != "" {
		c, n := utf.Next(s)
		if c != want || n != len(form(c)) {
			t.Fatalf("Next = %x, %d, want %x", c, n, want)
		}
		s = s[n:]
		want++
		if want == 0xd800 {
			want = 0xe000
		}
	}
	x := uint32(1)
	for n := range 400 {
		b := make([]byte, n)
		for i := range b {
			x = x*1664525 + 1013904223
			b[i] = byte(x >> 24)
			if x>>23&1 == 0 {
				b[i] = around[int(b[i])%len(around)]
			}
		}
		whole(t, string(b))
	}
	texts(t, strings.Repeat("\xff", 1<<20), -1, strings.Repeat(gap, 1<<20))
	texts(t, strings.Repeat("\xf0\x9f\x98", 1<<18), -1, strings.Repeat(gap, 3<<18))
}
