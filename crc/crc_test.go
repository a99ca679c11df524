package crc_test

import (
	"bytes"
	"hash/crc32"
	"math"
	"slices"
	"testing"

	"shadowbox/crc"
)

const full = math.MaxUint32

// plainGo is the chapter's words, bit by bit.
func plainGo(sum uint32, b []byte) uint32 {
	s := ^sum
	for _, c := range b {
		s ^= uint32(c)
		for range 8 {
			if s%2 == 1 {
				s = s/2 ^ 0x82f63b78
			} else {
				s /= 2
			}
		}
	}
	return ^s
}

// mixed answers n bytes without a plain order, the same ones each time.
func mixed(n int) []byte {
	b := make([]byte, n)
	x := uint32(n) + 1
	for i := range b {
		x = x*1664525 + 1013904223
		b[i] = byte(x >> 24)
	}
	return b
}

func sums() []uint32 {
	l := []uint32{0, full, full - 1, 0xe3069283, 0x82f63b78, 0x7d09c487, 0x0f0f0f0f, 0xaaaaaaaa}
	for i := range 32 {
		l = append(l, 1<<i, ^(uint32(1) << i))
	}
	return l
}

func TestSum(t *testing.T) { // P2.1
	for _, c := range []struct {
		b    string
		want uint32
	}{
		{"123456789", 0xe3069283},
		{"", 0},
		{"\x00", 0x527d5351},
		{"\xff", 0xff000000},
		{"a", 0xc1d04330},
		{"abc", 0x364b3fb7},
		{"\xff\xff\xff\xff", full},
		{"\xab\x9b\xe0\x9b", 0},
		{"\x00\x00\x00\x00", 0x48674bc7},
		{string(make([]byte, 32)), 0x8a9136aa},
		{string(bytes.Repeat([]byte{0xff}, 32)), 0x62a8ab43},
	} {
		if got := crc.Sum([]byte(c.b)); got != c.want {
			t.Errorf("Sum(%q) = %08x, want %08x", c.b, got, c.want)
		}
	}
	if got := crc.Sum(nil); got != 0 {
		t.Errorf("Sum of nil = %08x", got)
	}
}

func TestSumOfCounts(t *testing.T) { // P2.1
	up, down := make([]byte, 32), make([]byte, 32)
	for i := range up {
		up[i], down[31-i] = byte(i), byte(i)
	}
	if got := crc.Sum(up); got != 0x46dd794e {
		t.Errorf("Sum of 0 to 31 = %08x", got)
	}
	if got := crc.Sum(down); got != 0x113fdb5c {
		t.Errorf("Sum of 31 to 0 = %08x", got)
	}
}

func TestGoByteByByte(t *testing.T) { // P2.1
	for _, sum := range sums() {
		if got := crc.Go(sum, nil); got != sum {
			t.Errorf("Go(%08x) of no bytes = %08x", sum, got)
		}
		if got := crc.Go(sum, []byte{}); got != sum {
			t.Errorf("Go(%08x) of empty bytes = %08x", sum, got)
		}
		for c := range 256 {
			b := []byte{byte(c)}
			if got, want := crc.Go(sum, b), plainGo(sum, b); got != want {
				t.Errorf("Go(%08x, %02x) = %08x, want %08x", sum, c, got, want)
			}
		}
	}
}

func TestGoOfLengths(t *testing.T) { // P2.1
	table := crc32.MakeTable(crc32.Castagnoli)
	for n := range 300 {
		b := mixed(n)
		for _, sum := range []uint32{0, full, 0xe3069283} {
			want := plainGo(sum, b)
			if want != crc32.Update(sum, table, b) {
				t.Fatalf("the test's own sum of %d bytes is wrong", n)
			}
			if got := crc.Go(sum, b); got != want {
				t.Errorf("Go(%08x) of %d bytes = %08x, want %08x", sum, n, got, want)
			}
		}
		if got, want := crc.Sum(b), crc.Go(0, b); got != want {
			t.Errorf("Sum of %d bytes = %08x, Go of 0 = %08x", n, got, want)
		}
	}
	b := mixed(1 << 20)
	if got, want := crc.Sum(b), crc32.Checksum(b, table); got != want {
		t.Errorf("Sum of 2^20 bytes = %08x, want %08x", got, want)
	}
}

// A sum of all bits set is a state of 0, on which bytes of 0 leave no trace; a state of all bits set is the sum 0.
func TestGoFromEnds(t *testing.T) { // P2.1
	if got := crc.Go(full, make([]byte, 1000)); got != full {
		t.Errorf("Go of all bits and zeros = %08x", got)
	}
	if got, want := crc.Go(0, []byte{0}), uint32(0x527d5351); got != want {
		t.Errorf("Go of 0 and a zero = %08x, want %08x", got, want)
	}
	if got, want := crc.Go(full, []byte{128}), uint32(0x7d09c487); got != want {
		t.Errorf("Go of all bits and 80 = %08x, want %08x", got, want)
	}
}

func TestMemory(t *testing.T) { // P2.1: what is handed in, and its spare room, stays as it was and is not read
	all := append(mixed(100), bytes.Repeat([]byte{0xee}, 28)...)
	was := slices.Clone(all)
	first := crc.Sum(all[:100])
	all[100] ^= 1
	if again := crc.Sum(all[:100]); again != first {
		t.Errorf("the sum hangs on the spare room: %08x, %08x", first, again)
	}
	all[100] ^= 1
	crc.Go(7, all[:100])
	if !bytes.Equal(all, was) {
		t.Error("what was handed in was changed")
	}
}

func TestJoin(t *testing.T) { // P2.2
	for _, c := range []struct {
		x, y string
		want uint32
	}{
		{"1234", "56789", 0xe3069283},
		{"", "123456789", 0xe3069283},
		{"123456789", "", 0xe3069283},
		{"12345678", "9", 0xe3069283},
		{"1", "23456789", 0xe3069283},
		{"", "", 0},
		{"", "\x00", 0x527d5351},
		{"\xff\xff", "\xff\xff", full},
		{"\xab\x9b", "\xe0\x9b", 0},
	} {
		if got := crc.Join(crc.Sum([]byte(c.x)), crc.Sum([]byte(c.y)), len(c.y)); got != c.want {
			t.Errorf("Join of %q and %q = %08x, want %08x", c.x, c.y, got, c.want)
		}
	}
}

func TestJoinOfNone(t *testing.T) { // P2.2: below 1, b is not looked at
	for _, n := range []int{0, -1, -2, -8, -256, math.MinInt32, math.MinInt + 1, math.MinInt} {
		for _, a := range sums() {
			for _, b := range sums() {
				if got := crc.Join(a, b, n); got != a {
					t.Fatalf("Join(%08x, %08x, %d) = %08x", a, b, n, got)
				}
			}
		}
	}
}

func TestJoinOfLengths(t *testing.T) { // P2.2
	lengths := []int{65535, 65536, 65537, 1<<20 - 1, 1 << 20}
	for n := range 300 {
		lengths = append(lengths, n)
	}
	for _, n := range lengths {
		y := mixed(n)
		b := crc.Sum(y)
		for _, a := range []uint32{0, full, 1, 1 << 31, 0xe3069283} {
			if got, want := crc.Join(a, b, n), crc32.Update(a, crc32.MakeTable(crc32.Castagnoli), y); got != want {
				t.Errorf("Join(%08x, %08x, %d) = %08x, want %08x", a, b, n, got, want)
			}
		}
	}
	for _, a := range sums() {
		for c := range 256 {
			y := []byte{byte(c)}
			if got, want := crc.Join(a, plainGo(0, y), 1), plainGo(a, y); got != want {
				t.Errorf("Join(%08x) with %02x = %08x, want %08x", a, c, got, want)
			}
		}
	}
}

// The polynomial's powers of x come round behind 2^31 - 1 bits, so that a number of bytes counts modulo that alone.
func TestJoinOfMany(t *testing.T) { // P2.2
	const round = 1<<31 - 1
	for _, a := range sums() {
		for _, b := range []uint32{0, full, 0x12345678} {
			if got := crc.Join(a, b, round); got != a^b {
				t.Errorf("Join(%08x, %08x, 2^31 - 1) = %08x, want %08x", a, b, got, a^b)
			}
			if got, want := crc.Join(a, b, math.MaxInt), crc.Join(a, b, 1); got != want {
				t.Errorf("Join(%08x, %08x, 2^63 - 1) = %08x, want %08x", a, b, got, want)
			}
			for i := range 63 {
				if got, want := crc.Join(a, b, 1<<i), crc.Join(a, b, 1<<(i%31)); got != want {
					t.Errorf("Join(%08x, %08x, 2^%d) = %08x, want %08x", a, b, i, got, want)
				}
			}
			for _, n := range []int{1, 5, 300, 65536} {
				for _, more := range []int{round, 1000 * round, (math.MaxInt/round - 1) * round} {
					if got, want := crc.Join(a, b, n+more), crc.Join(a, b, n); got != want {
						t.Errorf("Join(%08x, %08x, %d) = %08x, want %08x", a, b, n+more, got, want)
					}
				}
			}
		}
	}
}

func TestJoinOfThree(t *testing.T) { // P2.2
	const c = 0x9abcdef0
	for _, a := range sums() {
		for _, b := range sums() {
			for _, n := range []int{1, 2, 7, 1 << 40, math.MaxInt / 2} {
				for _, m := range []int{1, 3, 64, 1<<31 - 2, math.MaxInt / 2} {
					left := crc.Join(crc.Join(a, b, n), c, m)
					right := crc.Join(a, crc.Join(b, c, m), n+m)
					if left != right {
						t.Fatalf("%08x, %08x of %d, and %08x of %d: %08x from the left, %08x from the right", a, b, n, c, m, left, right)
					}
				}
			}
		}
	}
}

func TestParts(t *testing.T) { // P2.3
	for _, n := range []int{0, 1, 2, 3, 9, 64, 257} {
		whole := mixed(n)
		want := crc.Sum(whole)
		for i := range n + 1 {
			x, y := whole[:i], whole[i:]
			if got := crc.Go(crc.Sum(x), y); got != want {
				t.Errorf("Go of %d and %d bytes = %08x, want %08x", i, n-i, got, want)
			}
			if got := crc.Join(crc.Sum(x), crc.Sum(y), len(y)); got != want {
				t.Errorf("Join of %d and %d bytes = %08x, want %08x", i, n-i, got, want)
			}
			for _, sum := range []uint32{full, 0x12345678} {
				if got, want := crc.Go(crc.Go(sum, x), y), crc.Go(sum, whole); got != want {
					t.Errorf("from %08x, Go of %d and %d bytes = %08x, want %08x", sum, i, n-i, got, want)
				}
			}
		}
		s := uint32(0)
		for i := range whole {
			s = crc.Go(crc.Go(s, nil), whole[i:i+1])
		}
		if s != want {
			t.Errorf("Go byte by byte of %d = %08x, want %08x", n, s, want)
		}
	}
}

func TestTurnedByte(t *testing.T) { // P2.3
	for _, n := range []int{1, 2, 9, 64} {
		b := mixed(n)
		want := crc.Sum(b)
		for i := range b {
			for c := 1; c < 256; c++ {
				b[i] ^= byte(c)
				if crc.Sum(b) == want {
					t.Errorf("of %d bytes, byte %d turned by %02x leaves the sum", n, i, c)
				}
				b[i] ^= byte(c)
			}
		}
	}
}

// turn turns those bits of b, from the given one on, that are set in bits.
func turn(b []byte, from int, bits uint32) {
	for i := range 32 {
		if bits>>i&1 == 1 {
			b[(from+i)/8] ^= 1 << ((from + i) % 8)
		}
	}
}

func TestTurnedBits(t *testing.T) { // P2.3: any bits that lie within 32 side by side
	b := mixed(48)
	want := crc.Sum(b)
	bits := []uint32{full, 1<<31 | 1, 0xaaaaaaaa, 0x55555555, 0x82f63b78, 0x1edc6f41, 0x80000003}
	for i := range 32 {
		bits = append(bits, full>>i, 1<<i, 1<<i|1)
	}
	for i := range 1 << 10 {
		bits = append(bits, uint32(i)*2+1, uint32(i)<<21|1<<31)
	}
	for from := range len(b)*8 - 31 {
		for _, x := range bits {
			turn(b, from, x)
			if crc.Sum(b) == want {
				t.Errorf("bits %08x turned from bit %d on leave the sum", x, from)
			}
			turn(b, from, x)
		}
	}
}
