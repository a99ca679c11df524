package sha_test

import (
	"bytes"
	"crypto/sha256"
	"encoding/binary"
	"encoding/hex"
	"math"
	"math/big"
	"slices"
	"strings"
	"testing"

	"shadowbox/sha"
)

// edges are the lengths at which the number of blocks changes, and those beside them.
var edges = []int{0, 1, 54, 55, 56, 57, 62, 63, 64, 65, 118, 119, 120, 121, 127, 128, 129}

// primes answers the first n primes.
func primes(n int) []int64 {
	var l []int64
	for p := int64(2); len(l) < n; p++ {
		if !slices.ContainsFunc(l, func(q int64) bool { return p%q == 0 }) {
			l = append(l, p)
		}
	}
	return l
}

// rootBits answers the first 32 bits behind the point of n's root of that power: those of the whole root of n * 2^(32*power).
func rootBits(n int64, power int) uint32 {
	whole := new(big.Int).Lsh(big.NewInt(n), uint(32*power))
	root := new(big.Int)
	for bit := 63; bit >= 0; bit-- {
		more := new(big.Int).SetBit(root, bit, 1)
		if new(big.Int).Exp(more, big.NewInt(int64(power)), nil).Cmp(whole) <= 0 {
			root = more
		}
	}
	return uint32(root.Uint64())
}

func firstWords() (h [8]uint32) {
	for i, p := range primes(8) {
		h[i] = rootBits(p, 2)
	}
	return h
}

func constants() (k [64]uint32) {
	for i, p := range primes(64) {
		k[i] = rootBits(p, 3)
	}
	return k
}

var k = constants()

// right answers x with its bits n places lower, those that leave coming in at the top, bit by bit.
func right(x uint32, n int) (out uint32) {
	for i := range 32 {
		if x>>i&1 == 1 {
			out |= 1 << ((i + 32 - n) % 32)
		}
	}
	return out
}

// plainBlock is the chapter's words, step by step.
func plainBlock(s sha.State, block []byte) sha.State {
	var w [64]uint32
	for t := range 16 {
		w[t] = binary.BigEndian.Uint32(block[4*t:])
	}
	for t := 16; t < 64; t++ {
		x, y := w[t-2], w[t-15]
		lowX := right(x, 17) ^ right(x, 19) ^ (x >> 10)
		lowY := right(y, 7) ^ right(y, 18) ^ (y >> 3)
		w[t] = lowX + w[t-7] + lowY + w[t-16]
	}
	v := s.H
	for t := range 64 {
		a, b, c, e, f, g, h := v[0], v[1], v[2], v[4], v[5], v[6], v[7]
		t1 := h + (right(e, 6) ^ right(e, 11) ^ right(e, 25)) + ((e & f) ^ (^e & g)) + k[t] + w[t]
		t2 := (right(a, 2) ^ right(a, 13) ^ right(a, 22)) + ((a & b) ^ (a & c) ^ (b & c))
		copy(v[1:], slices.Clone(v[:7]))
		v[4] += t1
		v[0] = t1 + t2
	}
	for i := range v {
		v[i] += s.H[i]
	}
	return sha.State{H: v, Bytes: s.Bytes + 64}
}

// plainEnd lays the whole end of the text in one list, and cuts it into blocks.
func plainEnd(s sha.State, rest []byte) (out [32]byte) {
	all := slices.Clone(rest[:min(len(rest), 63)])
	bits := new(big.Int).SetUint64(s.Bytes)
	bits.Add(bits, big.NewInt(int64(len(all))))
	bits.Mul(bits, big.NewInt(8))
	bits.And(bits, new(big.Int).SetUint64(math.MaxUint64))
	all = append(all, 128)
	for len(all)%64 != 56 {
		all = append(all, 0)
	}
	all = binary.BigEndian.AppendUint64(all, bits.Uint64())
	for ; len(all) > 0; all = all[64:] {
		s = plainBlock(s, all)
	}
	for i, x := range s.H {
		binary.BigEndian.PutUint32(out[4*i:], x)
	}
	return out
}

// mixed answers n bytes without a plain order, the same ones each time.
func mixed(n int) []byte {
	b := make([]byte, n)
	x := uint32(n) + 1
	for i := range b {
		x = x*1664525 + 1013904223
		b[i] = byte(x >> 24)
	}
	return b
}

func words(x uint32) (h [8]uint32) {
	for i := range h {
		h[i] = x
	}
	return h
}

// states are states of all kinds: those of texts, and those that no text makes.
func states() []sha.State {
	l := []sha.State{{}, {H: words(math.MaxUint32), Bytes: math.MaxUint64}, {H: words(math.MaxUint32)}, {Bytes: math.MaxUint64}}
	one := plainBlock(sha.State{H: firstWords()}, mixed(64))
	for _, n := range []uint64{
		0, 1, 55, 56, 63, 64, 65, 100, 128,
		1<<29 - 1, 1 << 29, 1<<32 - 1, 1 << 32, 1<<61 - 64, 1<<61 - 63, 1<<61 - 1, 1 << 61, 1<<61 + 64, 1<<63 - 1, 1 << 63,
		math.MaxUint64 - 127, math.MaxUint64 - 64, math.MaxUint64 - 63, math.MaxUint64 - 62, math.MaxUint64 - 1, math.MaxUint64,
	} {
		l = append(l, sha.State{H: firstWords(), Bytes: n}, sha.State{H: one.H, Bytes: n})
	}
	for i := range 8 {
		for _, x := range []uint32{1, 1 << 31, math.MaxUint32, 0x12345678} {
			s := sha.State{Bytes: 64}
			s.H[i] = x
			l = append(l, s)
		}
	}
	return l
}

// blocks are blocks of all kinds, each single byte's edge bits among them.
func blocks() [][64]byte {
	l := [][64]byte{{}, [64]byte(bytes.Repeat([]byte{255}, 64)), [64]byte(bytes.Repeat([]byte{128}, 64)), [64]byte(mixed(64)), [64]byte(mixed(65))}
	for i := range 64 {
		var low, high [64]byte
		low[i], high[i] = 1, 128
		l = append(l, low, high)
	}
	return l
}

func TestBegin(t *testing.T) { // P3.1
	want := sha.State{H: [8]uint32{0x6a09e667, 0xbb67ae85, 0x3c6ef372, 0xa54ff53a, 0x510e527f, 0x9b05688c, 0x1f83d9ab, 0x5be0cd19}}
	if want.H != firstWords() {
		t.Fatal("the test's own roots are wrong")
	}
	s := sha.Begin()
	if s != want {
		t.Errorf("Begin() = %08x", s)
	}
	s.H[3], s.Bytes = 7, 7
	if again := sha.Begin(); again != want {
		t.Errorf("Begin() = %08x, when an earlier one was changed", again)
	}
}

func TestBlockOfText(t *testing.T) { // P3.1: the one block of abc with its end
	var b [64]byte
	copy(b[:], "abc\x80")
	b[63] = 24
	want := sha.State{H: [8]uint32{0xba7816bf, 0x8f01cfea, 0x414140de, 0x5dae2223, 0xb00361a3, 0x96177a9c, 0xb410ff61, 0xf20015ad}, Bytes: 64}
	if got := sha.Begin().Block(b); got != want {
		t.Errorf("Block = %08x, want %08x", got, want)
	}
}

func TestBlockOfZeros(t *testing.T) { // P3.1
	want := sha.State{H: [8]uint32{0xda5698be, 0x17b9b469, 0x62335799, 0x779fbeca, 0x8ce5d491, 0xc0d26243, 0xbafef9ea, 0x1837a9d8}, Bytes: 64}
	if got := sha.Begin().Block([64]byte{}); got != want {
		t.Errorf("Block = %08x, want %08x", got, want)
	}
}

func TestBlock(t *testing.T) { // P3.1
	for _, s := range states() {
		was := s
		for i, b := range blocks() {
			if got, want := s.Block(b), plainBlock(s, b[:]); got != want {
				t.Errorf("block %d on %08x = %08x, want %08x", i, s, got, want)
			}
			if s != was {
				t.Fatalf("Block changed its state %08x", was)
			}
		}
	}
}

func TestBlockOfMany(t *testing.T) { // P3.1: each block turns on what the one before it made
	for _, s := range states() {
		want := s
		for i := range 20 {
			b := mixed(64 + i)[:64]
			s, want = s.Block([64]byte(b)), plainBlock(want, b)
			if s != want {
				t.Fatalf("block %d = %08x, want %08x", i, s, want)
			}
		}
	}
}

func TestBlockCountsBytes(t *testing.T) { // P3.1: modulo 2^64
	for _, c := range []struct{ was, want uint64 }{
		{0, 64}, {1, 65}, {63, 127}, {64, 128}, {100, 164}, {1<<32 - 64, 1 << 32}, {1<<63 - 1, 1<<63 + 63},
		{math.MaxUint64 - 64, math.MaxUint64}, {math.MaxUint64 - 63, 0}, {math.MaxUint64, 63},
	} {
		if got := (sha.State{Bytes: c.was}).Block([64]byte{}).Bytes; got != c.want {
			t.Errorf("Block on %d bytes has %d, want %d", c.was, got, c.want)
		}
	}
}

func TestText(t *testing.T) { // P3.2
	for _, c := range []struct{ s, want string }{
		{"abc", "ba7816bf8f01cfea414140de5dae2223b00361a396177a9cb410ff61f20015ad"},
		{"", "e3b0c44298fc1c149afbf4c8996fb92427ae41e4649b934ca495991b7852b855"},
		{"a", "ca978112ca1bbdcafac231b39a23dc4da786eff8147c4e72b9807785afee48bb"},
		{"\x00", "6e340b9cffb37a989ca544e6bb780a2c78901d3fb33738768511a30617afa01d"},
		{"abcdbcdecdefdefgefghfghighijhijkijkljklmklmnlmnomnopnopq", "248d6a61d20638b8e5c026930c3e6039a33ce45964ff2167f6ecedd419db06c1"},
		{"abcdefghbcdefghicdefghijdefghijkefghijklfghijklmghijklmnhijklmnoijklmnopjklmnopqklmnopqrlmnopqrsmnopqrstnopqrstu", "cf5b16a778af8380036ce59e7b0492370b249b11e8f07a51afac45037afee9d1"},
		{strings.Repeat("a", 1000000), "cdc76e5c9914fb9281a1c7e284d73e67f1809a48a497200e046d39ccc7112cd0"},
	} {
		if got := sha.Text([]byte(c.s)); got != c.want {
			t.Errorf("Text of %d bytes = %s, want %s", len(c.s), got, c.want)
		}
	}
	if got := sha.Text(nil); got != "e3b0c44298fc1c149afbf4c8996fb92427ae41e4649b934ca495991b7852b855" {
		t.Errorf("Text of nil = %s", got)
	}
}

func TestTextOfEdges(t *testing.T) { // P3.2: so many a
	for _, c := range []struct {
		n    int
		want string
	}{
		{55, "9f4390f8d30c2dd92ec9f095b65e2b9ae9b0a925a5258e241c9f1e910f734318"},
		{56, "b35439a4ac6f0948b6d6f9e3c6af0f5f590ce20f1bde7090ef7970686ec6738a"},
		{63, "7d3e74a05d7db15bce4ad9ec0658ea98e3f06eeecf16b4c6fff2da457ddc2f34"},
		{64, "ffe054fe7ae0cb6dc65c3af9b61d5209f439851db43d0ba5997337df154668eb"},
		{65, "635361c48bb9eab14198e76ea8ab7f1a41685d6ad62aa9146d301d4f17eb0ae0"},
		{119, "31eba51c313a5c08226adf18d4a359cfdfd8d2e816b13f4af952f7ea6584dcfb"},
		{120, "2f3d335432c70b580af0e8e1b3674a7c020d683aa5f73aaaedfdc55af904c21c"},
		{128, "6836cf13bac400e9105071cd6af47084dfacad4e5e302c94bfed24e013afb73e"},
	} {
		if got := sha.Text(bytes.Repeat([]byte("a"), c.n)); got != c.want {
			t.Errorf("Text of %d a = %s, want %s", c.n, got, c.want)
		}
	}
}

func TestSumOfLengths(t *testing.T) { // P3.2
	lengths := []int{1000, 4095, 4096, 65535, 65536, 65537, 1 << 20}
	for n := range 400 {
		lengths = append(lengths, n)
	}
	for _, n := range lengths {
		for _, b := range [][]byte{mixed(n), make([]byte, n), bytes.Repeat([]byte{255}, n), bytes.Repeat([]byte{128}, n)} {
			want := sha256.Sum256(b)
			if got := sha.Sum(b); got != want {
				t.Errorf("Sum of %d bytes = %x, want %x", n, got, want)
			}
			if got := sha.Text(b); got != hex.EncodeToString(want[:]) {
				t.Errorf("Text of %d bytes = %s, want %x", n, got, want)
			}
		}
	}
}

func TestTextHasAllDigits(t *testing.T) { // P3.2: each byte, those below 16 too, has two digits
	var met [256]bool
	for i := range 100 {
		b := mixed(i)
		sum, text := sha.Sum(b), sha.Text(b)
		for j, c := range sum {
			met[c] = true
			const digits = "0123456789abcdef"
			if want := string([]byte{digits[c/16], digits[c%16]}); text[2*j:2*j+2] != want {
				t.Errorf("digits of byte %d, %d, are %s", j, c, text[2*j:2*j+2])
			}
		}
		if len(text) != 64 {
			t.Errorf("Text of %d bytes has %d digits", i, len(text))
		}
	}
	for c, ok := range met {
		if !ok {
			t.Errorf("no sum has a byte %d: the test needs more of them", c)
		}
	}
}

func TestEnd(t *testing.T) { // P3.2
	for _, s := range states() {
		was := s
		for n := range 64 {
			rest := mixed(n)
			if got, want := s.End(rest), plainEnd(s, rest); got != want {
				t.Errorf("End of %d bytes on %08x = %x, want %x", n, s, got, want)
			}
		}
		if got, want := s.End(nil), plainEnd(s, []byte{}); got != want {
			t.Errorf("End of nil on %08x = %x, want %x", s, got, want)
		}
		if s != was {
			t.Fatalf("End changed its state %08x", was)
		}
	}
}

func TestEndOfTexts(t *testing.T) { // P3.2: the test's own end agrees with the library's sum, and so does End
	for n := range 64 {
		rest := mixed(n)
		want := sha256.Sum256(rest)
		if plainEnd(sha.State{H: firstWords()}, rest) != want {
			t.Fatalf("the test's own end of %d bytes is wrong", n)
		}
		if got := sha.Begin().End(rest); got != want {
			t.Errorf("End of %d bytes = %x, want %x", n, got, want)
		}
	}
}

func TestEndOfTooMany(t *testing.T) { // P3.2: of more than 63 bytes the first 63 alone
	for _, s := range states() {
		for _, n := range []int{64, 65, 119, 120, 127, 128, 129, 1000, 65536} {
			rest := mixed(n)
			got := s.End(rest)
			if want := s.End(rest[:63]); got != want {
				t.Errorf("End of %d bytes on %08x = %x, of the first 63 %x", n, s, got, want)
			}
			if want := plainEnd(s, rest); got != want {
				t.Errorf("End of %d bytes on %08x = %x, want %x", n, s, got, want)
			}
		}
	}
}

// Eight times Bytes comes round at 2^61 bytes, so that states that far apart end alike, and no others that are this near.
func TestEndCountsBits(t *testing.T) { // P3.2: modulo 2^64
	for _, n := range []int{0, 1, 55, 56, 63} {
		rest := mixed(n)
		for _, count := range []uint64{0, 1, 63, 64, 1000, 1<<61 - 1} {
			s := sha.State{H: firstWords(), Bytes: count}
			want := s.End(rest)
			for i := uint64(1); i < 8; i++ {
				s.Bytes = count + i<<61
				if s.End(rest) != want {
					t.Errorf("End of %d bytes behind %d is not that behind %d", n, s.Bytes, count)
				}
			}
			for bit := range 61 {
				s.Bytes = count ^ 1<<bit
				if s.End(rest) == want {
					t.Errorf("End of %d bytes behind %d is that behind %d", n, s.Bytes, count)
				}
			}
		}
	}
}

func TestParts(t *testing.T) { // P3.3
	for _, n := range append(slices.Clone(edges), 191, 192, 193, 1000, 65536) {
		b := mixed(n)
		want := sha256.Sum256(b)
		s, rest := sha.Begin(), b
		for ; len(rest) >= 64; rest = rest[64:] {
			s = s.Block([64]byte(rest))
		}
		if s.Bytes != uint64(n-n%64) {
			t.Errorf("the blocks of %d bytes are %d", n, s.Bytes)
		}
		if got := s.End(rest); got != want {
			t.Errorf("block by block, the sum of %d bytes is %x, want %x", n, got, want)
		}
		if got := sha.Sum(b); got != want {
			t.Errorf("Sum of %d bytes = %x, want %x", n, got, want)
		}
	}
}

// A state is a value: what goes on from it one way leaves it for another.
func TestPartsThatBranch(t *testing.T) { // P3.3
	common := mixed(192)
	s := sha.Begin()
	for i := range 3 {
		s = s.Block([64]byte(common[64*i:]))
	}
	for _, n := range edges {
		tail := mixed(n)
		branch, rest := s, tail
		for ; len(rest) >= 64; rest = rest[64:] {
			branch = branch.Block([64]byte(rest))
		}
		if got, want := branch.End(rest), sha256.Sum256(slices.Concat(common, tail)); got != want {
			t.Errorf("the sum with %d bytes behind is %x, want %x", n, got, want)
		}
	}
}

func TestMemory(t *testing.T) { // P3.2: what is handed in, and its spare room, stays as it was and is not read
	for _, n := range append(slices.Clone(edges), 1000) {
		all := append(mixed(n), bytes.Repeat([]byte{0xee}, 70)...)
		was := slices.Clone(all)
		b := all[:n]
		sum, text, end := sha.Sum(b), sha.Text(b), sha.Begin().End(b)
		if !bytes.Equal(all, was) {
			t.Fatalf("of %d bytes, what was handed in was changed", n)
		}
		for i := n; i < len(all); i++ {
			all[i] = 0x11
		}
		if sha.Sum(b) != sum || sha.Text(b) != text || sha.Begin().End(b) != end {
			t.Errorf("of %d bytes, the sum hangs on the spare room", n)
		}
	}
}
