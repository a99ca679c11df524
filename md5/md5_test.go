package md5_test

import (
	"bytes"
	stdmd5 "crypto/md5"
	"encoding/binary"
	"encoding/hex"
	"math"
	"math/big"
	"slices"
	"strings"
	"testing"

	"shadowbox/md5"
)

// edges are the lengths at which the number of blocks changes, and those beside them.
var edges = []int{0, 1, 54, 55, 56, 57, 62, 63, 64, 65, 118, 119, 120, 121, 127, 128, 129}

// sine answers the whole part of 2^32 times the sine of i, without its sign: by the row i - i^3/3! + i^5/5! .., in parts of 2^512.
func sine(i int64) uint32 {
	term := new(big.Int).Lsh(big.NewInt(i), 512)
	sum := new(big.Int)
	for n := int64(1); term.Sign() != 0; n += 2 {
		sum.Add(sum, term)
		term.Mul(term, big.NewInt(-i*i))
		term.Quo(term, big.NewInt((n+1)*(n+2)))
	}
	return uint32(sum.Abs(sum).Rsh(sum, 512-32).Uint64())
}

// sines has Ti at i; nothing is at 0.
func sines() (t [65]uint32) {
	for i := 1; i <= 64; i++ {
		t[i] = sine(int64(i))
	}
	return t
}

var ti = sines()

// left answers x with its bits n places higher, those that leave coming in at the bottom, bit by bit.
func left(x uint32, n int) (out uint32) {
	for i := range 32 {
		if x>>i&1 == 1 {
			out |= 1 << ((i + n) % 32)
		}
	}
	return out
}

// A kind is what 16 steps have in common.
type kind struct {
	f     func(b, c, d uint32) uint32
	times int
	more  int
	turns []int
}

var kinds = []kind{
	{func(b, c, d uint32) uint32 { return (b & c) | (^b & d) }, 1, 0, []int{7, 12, 17, 22}},
	{func(b, c, d uint32) uint32 { return (d & b) | (^d & c) }, 5, 1, []int{5, 9, 14, 20}},
	{func(b, c, d uint32) uint32 { return b ^ c ^ d }, 3, 5, []int{4, 11, 16, 23}},
	{func(b, c, d uint32) uint32 { return c ^ (b | ^d) }, 7, 0, []int{6, 10, 15, 21}},
}

// parts answers what the step i takes, but T(i+1): f and the block's word, and its turn.
func parts(i int, v [4]uint32, block []byte) (f, x uint32, turn int) {
	k := kinds[i/16]
	at := (k.times*i + k.more) % 16
	return k.f(v[1], v[2], v[3]), binary.LittleEndian.Uint32(block[4*at:]), k.turns[i%4]
}

// plainStep is the step i of the chapter on the words a, b, c, d.
func plainStep(i int, v [4]uint32, block []byte) [4]uint32 {
	f, x, turn := parts(i, v, block)
	return [4]uint32{v[3], v[1] + left(v[0]+f+x+ti[i+1], turn), v[1], v[2]}
}

// stepBack answers the words that the step i made these of.
func stepBack(i int, v [4]uint32, block []byte) [4]uint32 {
	was := [4]uint32{0, v[2], v[3], v[0]}
	f, x, turn := parts(i, was, block)
	was[0] = left(v[1]-was[1], 32-turn) - f - x - ti[i+1]
	return was
}

// plainBlock is the chapter's words, step by step.
func plainBlock(s md5.State, block []byte) md5.State {
	v := s.W
	for i := range 64 {
		v = plainStep(i, v, block)
	}
	for i := range v {
		v[i] += s.W[i]
	}
	return md5.State{W: v, Bytes: s.Bytes + 64}
}

// plainEnd lays the whole end of the text in one list, and cuts it into blocks.
func plainEnd(s md5.State, rest []byte) (out [16]byte) {
	all := slices.Clone(rest[:min(len(rest), 63)])
	bits := new(big.Int).SetUint64(s.Bytes)
	bits.Add(bits, big.NewInt(int64(len(all))))
	bits.Mul(bits, big.NewInt(8))
	bits.And(bits, new(big.Int).SetUint64(math.MaxUint64))
	all = append(all, 128)
	for len(all)%64 != 56 {
		all = append(all, 0)
	}
	all = binary.LittleEndian.AppendUint64(all, bits.Uint64())
	for ; len(all) > 0; all = all[64:] {
		s = plainBlock(s, all)
	}
	for i, x := range s.W {
		binary.LittleEndian.PutUint32(out[4*i:], x)
	}
	return out
}

// first is the state that the chapter begins with.
func first() md5.State {
	return md5.State{W: [4]uint32{0x67452301, 0xefcdab89, 0x98badcfe, 0x10325476}}
}

// mixed answers n bytes without a plain order, the same ones each time.
func mixed(n int) []byte {
	b := make([]byte, n)
	x := uint32(n) + 1
	for i := range b {
		x = x*1664525 + 1013904223
		b[i] = byte(x >> 24)
	}
	return b
}

func words(x uint32) [4]uint32 { return [4]uint32{x, x, x, x} }

// states are states of all kinds: those of texts, and those that no text makes.
func states() []md5.State {
	l := []md5.State{{}, {W: words(math.MaxUint32), Bytes: math.MaxUint64}, {W: words(math.MaxUint32)}, {Bytes: math.MaxUint64}}
	one := plainBlock(first(), mixed(64))
	for _, n := range []uint64{
		0, 1, 55, 56, 63, 64, 65, 100, 128,
		1<<29 - 1, 1 << 29, 1<<32 - 1, 1 << 32, 1<<61 - 64, 1<<61 - 63, 1<<61 - 1, 1 << 61, 1<<61 + 64, 1<<63 - 1, 1 << 63,
		math.MaxUint64 - 127, math.MaxUint64 - 64, math.MaxUint64 - 63, math.MaxUint64 - 62, math.MaxUint64 - 1, math.MaxUint64,
	} {
		l = append(l, md5.State{W: first().W, Bytes: n}, md5.State{W: one.W, Bytes: n})
	}
	for i := range 4 {
		for _, x := range []uint32{1, 1 << 31, math.MaxUint32, 0x12345678} {
			s := md5.State{Bytes: 64}
			s.W[i] = x
			l = append(l, s)
		}
	}
	return l
}

// blocks are blocks of all kinds, each single byte's edge bits among them.
func blocks() [][64]byte {
	l := [][64]byte{{}, [64]byte(bytes.Repeat([]byte{255}, 64)), [64]byte(bytes.Repeat([]byte{128}, 64)), [64]byte(mixed(64)), [64]byte(mixed(65))}
	for i := range 64 {
		var low, high [64]byte
		low[i], high[i] = 1, 128
		l = append(l, low, high)
	}
	return l
}

func TestBegin(t *testing.T) { // P11.1
	s := md5.Begin()
	if s != first() {
		t.Errorf("Begin() = %08x", s)
	}
	s.W[3], s.Bytes = 7, 7
	if again := md5.Begin(); again != first() {
		t.Errorf("Begin() = %08x, when an earlier one was changed", again)
	}
}

func TestOwnSines(t *testing.T) { // P11.1: the test's numbers Ti are those that floats make, and those of RFC 1321
	for i := 1; i <= 64; i++ {
		if want := uint32(math.Abs(math.Sin(float64(i))) * (1 << 32)); ti[i] != want {
			t.Errorf("the test's own T%d is %08x, by floats %08x", i, ti[i], want)
		}
	}
	for i, want := range map[int]uint32{1: 0xd76aa478, 16: 0x49b40821, 17: 0xf61e2562, 32: 0x8d2a4c8a, 33: 0xfffa3942, 48: 0xc4ac5665, 49: 0xf4292244, 64: 0xeb86d391} {
		if ti[i] != want {
			t.Errorf("the test's own T%d is %08x, want %08x", i, ti[i], want)
		}
	}
}

// What Block tells is gone back on to the step of a Ti, and the words before it forward to there: between both, that Ti alone is unknown.
func TestEachSine(t *testing.T) { // P11.1
	for _, b := range [][]byte{make([]byte, 64), mixed(64), bytes.Repeat([]byte{255}, 64)} {
		told := md5.Begin().Block([64]byte(b)).W
		for i := range told {
			told[i] -= first().W[i]
		}
		for i := range 64 {
			before, behind := first().W, told
			for j := range i {
				before = plainStep(j, before, b)
			}
			for j := 63; j > i; j-- {
				behind = stepBack(j, behind, b)
			}
			f, x, turn := parts(i, before, b)
			if got := left(behind[1]-before[1], 32-turn) - before[0] - f - x; got != ti[i+1] {
				t.Errorf("T%d of Block is %08x, if the others are right, want %08x", i+1, got, ti[i+1])
			}
		}
	}
}

func TestBlockOfText(t *testing.T) { // P11.1: the one block of abc with its end
	var b [64]byte
	copy(b[:], "abc\x80")
	b[56] = 24
	want := md5.State{W: [4]uint32{0x98500190, 0xb04fd23c, 0x7d3f96d6, 0x727fe128}, Bytes: 64}
	if got := md5.Begin().Block(b); got != want {
		t.Errorf("Block = %08x, want %08x", got, want)
	}
}

func TestBlock(t *testing.T) { // P11.1
	for _, s := range states() {
		was := s
		for i, b := range blocks() {
			kept := b
			if got, want := s.Block(b), plainBlock(s, b[:]); got != want {
				t.Errorf("block %d on %08x = %08x, want %08x", i, s, got, want)
			}
			if s != was || b != kept {
				t.Fatalf("Block changed its state %08x, or its block %d", was, i)
			}
		}
	}
}

func TestBlockOfMany(t *testing.T) { // P11.1: each block turns on what the one before it made
	for _, s := range states() {
		want := s
		for i := range 20 {
			b := mixed(64 + i)[:64]
			s, want = s.Block([64]byte(b)), plainBlock(want, b)
			if s != want {
				t.Fatalf("block %d = %08x, want %08x", i, s, want)
			}
		}
	}
}

func TestBlockCountsBytes(t *testing.T) { // P11.1: modulo 2^64
	for _, c := range []struct{ was, want uint64 }{
		{0, 64}, {1, 65}, {63, 127}, {64, 128}, {100, 164}, {1<<32 - 64, 1 << 32}, {1<<63 - 1, 1<<63 + 63},
		{math.MaxUint64 - 64, math.MaxUint64}, {math.MaxUint64 - 63, 0}, {math.MaxUint64, 63},
	} {
		if got := (md5.State{Bytes: c.was}).Block([64]byte{}).Bytes; got != c.want {
			t.Errorf("Block on %d bytes has %d, want %d", c.was, got, c.want)
		}
	}
}

func TestText(t *testing.T) { // P11.2: the chapter's example, and those of RFC 1321
	for _, c := range []struct{ s, want string }{
		{"abc", "900150983cd24fb0d6963f7d28e17f72"},
		{"", "d41d8cd98f00b204e9800998ecf8427e"},
		{"a", "0cc175b9c0f1b6a831c399e269772661"},
		{"\x00", "93b885adfe0da089cdf634904fd59f71"},
		{"message digest", "f96b697d7cb7938d525a2f31aaf161d0"},
		{"abcdefghijklmnopqrstuvwxyz", "c3fcd3d76192e4007dfb496cca67e13b"},
		{"ABCDEFGHIJKLMNOPQRSTUVWXYZabcdefghijklmnopqrstuvwxyz0123456789", "d174ab98d277d9f5a5611c2c9f419d9f"},
		{strings.Repeat("1234567890", 8), "57edf4a22be3c955ac49da2e2107b67a"},
		{strings.Repeat("a", 1000000), "7707d6ae4e027c70eea2a935c2296f21"},
	} {
		if got := md5.Text([]byte(c.s)); got != c.want {
			t.Errorf("Text of %d bytes = %s, want %s", len(c.s), got, c.want)
		}
	}
	if got := md5.Text(nil); got != "d41d8cd98f00b204e9800998ecf8427e" {
		t.Errorf("Text of nil = %s", got)
	}
}

func TestTextOfEdges(t *testing.T) { // P11.2: so many a
	for _, c := range []struct {
		n    int
		want string
	}{
		{55, "ef1772b6dff9a122358552954ad0df65"},
		{56, "3b0c8ac703f828b04c6c197006d17218"},
		{63, "b06521f39153d618550606be297466d5"},
		{64, "014842d480b571495a4a0363793f7367"},
		{65, "c743a45e0d2e6a95cb859adae0248435"},
		{119, "8a7bd0732ed6a28ce75f6dabc90e1613"},
		{120, "5f61c0ccad4cac44c75ff505e1f1e537"},
		{128, "e510683b3f5ffe4093d021808bc6ff70"},
	} {
		if got := md5.Text(bytes.Repeat([]byte("a"), c.n)); got != c.want {
			t.Errorf("Text of %d a = %s, want %s", c.n, got, c.want)
		}
	}
}

func TestSumOfLengths(t *testing.T) { // P11.2
	lengths := []int{1000, 4095, 4096, 65535, 65536, 65537, 1 << 20}
	for n := range 400 {
		lengths = append(lengths, n)
	}
	for _, n := range lengths {
		for _, b := range [][]byte{mixed(n), make([]byte, n), bytes.Repeat([]byte{255}, n), bytes.Repeat([]byte{128}, n)} {
			want := stdmd5.Sum(b)
			if got := md5.Sum(b); got != want {
				t.Errorf("Sum of %d bytes = %x, want %x", n, got, want)
			}
			if got := md5.Text(b); got != hex.EncodeToString(want[:]) {
				t.Errorf("Text of %d bytes = %s, want %x", n, got, want)
			}
		}
	}
}

func TestTextHasAllDigits(t *testing.T) { // P11.2: each byte, those below 16 too, has two digits
	const digits = "0123456789abcdef"
	var met [256]bool
	for i := range 200 {
		b := mixed(i)
		sum, text := md5.Sum(b), md5.Text(b)
		if len(text) != 32 {
			t.Fatalf("Text of %d bytes has %d digits", i, len(text))
		}
		for j, c := range sum {
			met[c] = true
			if want := string([]byte{digits[c/16], digits[c%16]}); text[2*j:2*j+2] != want {
				t.Errorf("digits of byte %d, %d, are %s", j, c, text[2*j:2*j+2])
			}
		}
	}
	for c, ok := range met {
		if !ok {
			t.Errorf("no sum has a byte %d: the test needs more of them", c)
		}
	}
}

func TestEnd(t *testing.T) { // P11.2
	for _, s := range states() {
		was := s
		for n := range 64 {
			for _, rest := range [][]byte{mixed(n), make([]byte, n), bytes.Repeat([]byte{255}, n)} {
				if got, want := s.End(rest), plainEnd(s, rest); got != want {
					t.Errorf("End of %d bytes on %08x = %x, want %x", n, s, got, want)
				}
			}
		}
		if got, want := s.End(nil), plainEnd(s, []byte{}); got != want {
			t.Errorf("End of nil on %08x = %x, want %x", s, got, want)
		}
		if s != was {
			t.Fatalf("End changed its state %08x", was)
		}
	}
}

func TestEndOfTexts(t *testing.T) { // P11.2: the test's own end agrees with the library's sum, and so does End
	for n := range 64 {
		rest := mixed(n)
		want := stdmd5.Sum(rest)
		if plainEnd(first(), rest) != want {
			t.Fatalf("the test's own end of %d bytes is wrong", n)
		}
		if got := md5.Begin().End(rest); got != want {
			t.Errorf("End of %d bytes = %x, want %x", n, got, want)
		}
	}
}

func TestEndOfTooMany(t *testing.T) { // P11.2: of more than 63 bytes the first 63 alone
	for _, s := range states() {
		for _, n := range []int{64, 65, 119, 120, 127, 128, 129, 1000, 65536} {
			rest := mixed(n)
			got := s.End(rest)
			if want := s.End(rest[:63]); got != want {
				t.Errorf("End of %d bytes on %08x = %x, of the first 63 %x", n, s, got, want)
			}
			if want := plainEnd(s, rest); got != want {
				t.Errorf("End of %d bytes on %08x = %x, want %x", n, s, got, want)
			}
		}
	}
}

// Eight times Bytes comes round at 2^61 bytes, so that states that far apart end alike, and those nearer do not.
func TestEndCountsBits(t *testing.T) { // P11.2: modulo 2^64
	for _, n := range []int{0, 1, 55, 56, 63} {
		rest := mixed(n)
		for _, count := range []uint64{0, 1, 63, 64, 1000, 1<<61 - 1} {
			s := md5.State{W: first().W, Bytes: count}
			want := s.End(rest)
			for i := uint64(1); i < 8; i++ {
				s.Bytes = count + i<<61
				if s.End(rest) != want {
					t.Errorf("End of %d bytes behind %d is not that behind %d", n, s.Bytes, count)
				}
			}
			for bit := range 61 {
				s.Bytes = count ^ 1<<bit
				if s.End(rest) == want {
					t.Errorf("End of %d bytes behind %d is that behind %d", n, s.Bytes, count)
				}
			}
		}
	}
}

// byBlocks is what P11.3 says of the parts: whole blocks on a state, and an end with what is left.
func byBlocks(s md5.State, b []byte) [16]byte {
	for ; len(b) >= 64; b = b[64:] {
		s = s.Block([64]byte(b))
	}
	return s.End(b)
}

func TestParts(t *testing.T) { // P11.3
	for _, n := range append(slices.Clone(edges), 191, 192, 193, 1000, 65536) {
		b := mixed(n)
		want := stdmd5.Sum(b)
		if got := byBlocks(md5.Begin(), b); got != want {
			t.Errorf("block by block, the sum of %d bytes is %x, want %x", n, got, want)
		}
		if got := md5.Sum(b); got != want {
			t.Errorf("Sum of %d bytes = %x, want %x", n, got, want)
		}
	}
}

// A state is a value: what goes on from it one way leaves it for another.
func TestPartsThatBranch(t *testing.T) { // P11.3
	common := mixed(192)
	s := md5.Begin()
	for i := range 3 {
		s = s.Block([64]byte(common[64*i:]))
		if s.Bytes != uint64(64*(i+1)) {
			t.Errorf("%d blocks have %d bytes", i+1, s.Bytes)
		}
	}
	for _, n := range edges {
		tail := mixed(n)
		if got, want := byBlocks(s, tail), stdmd5.Sum(slices.Concat(common, tail)); got != want {
			t.Errorf("the sum with %d bytes behind is %x, want %x", n, got, want)
		}
	}
}

func TestMemory(t *testing.T) { // P11.2: what is handed in, and its spare room, stays as it was and is not read
	for _, n := range append(slices.Clone(edges), 1000) {
		all := append(mixed(n), bytes.Repeat([]byte{0xee}, 70)...)
		was := slices.Clone(all)
		b := all[:n]
		sum, text, end := md5.Sum(b), md5.Text(b), md5.Begin().End(b)
		if !bytes.Equal(all, was) {
			t.Fatalf("of %d bytes, what was handed in was changed", n)
		}
		for i := n; i < len(all); i++ {
			all[i] = 0x11
		}
		if md5.Sum(b) != sum || md5.Text(b) != text || md5.Begin().End(b) != end {
			t.Errorf("of %d bytes, the sum hangs on the spare room", n)
		}
	}
}
