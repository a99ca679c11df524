package pointer_test

import (
	"bytes"
	"crypto/sha256"
	"encoding/binary"
	"hash/crc32"
	"math"
	"slices"
	"testing"

	"shadowbox/api"
	"shadowbox/pointer"
)

// The limits, as the document tells them.
const (
	size      = 52
	sector    = 512
	most      = 65536
	sectors   = 8192
	lastBirth = 1 << 60
)

var castagnoli = crc32.MakeTable(crc32.Castagnoli)

// full answers a text of n bytes that is another one for each seed from 0 to 250.
func full(n, seed int) []byte {
	b := make([]byte, n)
	for i := range b {
		b[i] = byte((i*7 + seed) % 251)
	}
	return b
}

// made answers the pointer of bytes by sums that are not the program's.
func made(at, birth int, b []byte) api.Pointer {
	return api.Pointer{At: at, Birth: birth, Length: len(b), Crc: crc32.Checksum(b, castagnoli), Sha: sha256.Sum256(b)}
}

// raw answers the bytes of a pointer's fields, as P6.3 tells them.
func raw(at, length uint32, birth uint64, crc uint32, sha [32]byte) []byte {
	b := binary.LittleEndian.AppendUint32(nil, at)
	b = binary.LittleEndian.AppendUint32(b, length)
	b = binary.LittleEndian.AppendUint64(b, birth)
	b = binary.LittleEndian.AppendUint32(b, crc)
	return append(b, sha[:]...)
}

// rising answers a sum whose bytes are all others, so that none can take another's place.
func rising(first byte) (sha [32]byte) {
	for i := range sha {
		sha[i] = first + byte(i)
	}
	return sha
}

// edges answers numbers at which something may change, and those at the ends of int.
func edges() []int {
	l := []int{math.MinInt, math.MinInt + 1, math.MaxInt - 1, math.MaxInt, sectors - 128, sectors - 127, lastBirth - 1, lastBirth, lastBirth + 1}
	for _, n := range []int{0, 1, 2, 3, sector, 2 * sector, sectors, most, 1 << 31, 1 << 32, 1<<32 + 1, 1<<32 + 2, 1 << 62} {
		l = append(l, n-1, n, n+1, -n)
	}
	slices.Sort(l)
	return slices.Compact(l)
}

// turned answers b with one bit turned.
func turned(b []byte, bit int) []byte {
	out := slices.Clone(b)
	out[bit/8] ^= 1 << (bit % 8)
	return out
}

// roomy answers b with spare room behind it, and a look at whether anything of both was changed.
func roomy(b []byte) (out []byte, untouched func() bool) {
	all := slices.Concat(b, bytes.Repeat([]byte{0xee}, 2*size))
	want := slices.Clone(all)
	return all[:len(b)], func() bool { return bytes.Equal(all, want) }
}

func TestExample(t *testing.T) { // the chapter's example 1
	if got := pointer.Sectors(api.Pointer{Length: 513}); got != 2 {
		t.Errorf("Sectors of a Length of 513 is %d, want 2", got)
	}
}

func TestNone(t *testing.T) { // P6.1: each field is asked, and each byte of Sha
	if !pointer.None(api.Pointer{}) {
		t.Error("zeros are not None")
	}
	for _, n := range edges() {
		if n == 0 {
			continue
		}
		for _, p := range []api.Pointer{{At: n}, {Birth: n}, {Length: n}} {
			if pointer.None(p) {
				t.Errorf("%+v is None", p)
			}
		}
	}
	for i := range 32 {
		if pointer.None(api.Pointer{Crc: 1 << i}) {
			t.Errorf("a Crc with the bit %d is None", i)
		}
		for _, c := range []byte{1, 128, 255} {
			p := api.Pointer{}
			p.Sha[i] = c
			if pointer.None(p) {
				t.Errorf("a Sha with %d at %d is None", c, i)
			}
		}
	}
	if pointer.None(made(2, 1, full(1, 0))) {
		t.Error("a block's pointer is None")
	}
}

func TestRight(t *testing.T) { // P6.1
	for _, c := range []struct {
		at, birth, length int
		want              bool
	}{
		{100, 7, 700, true},

		{100, 0, 700, false},
		{100, 1, 700, true},
		{100, 2, 700, true},
		{100, 1<<60 - 1, 700, true},
		{100, 1 << 60, 700, true},
		{100, 1<<60 + 1, 700, false},
		{100, -1, 700, false},
		{100, math.MinInt, 700, false},
		{100, math.MaxInt, 700, false},

		{100, 7, 0, false},
		{100, 7, 1, true},
		{100, 7, 65535, true},
		{100, 7, 65536, true},
		{100, 7, 65537, false},
		{100, 7, -1, false},
		{100, 7, -700, false},
		{100, 7, math.MinInt, false},
		{100, 7, math.MaxInt, false},

		{1, 7, 700, false},
		{2, 7, 700, true},
		{3, 7, 700, true},
		{0, 7, 700, false},
		{-1, 7, 700, false},
		{-100, 7, 700, false},
		{math.MinInt, 7, 700, false},
		{math.MaxInt, 7, 700, false},
		{math.MaxInt - 1, 7, 700, false}, // with two sectors more it is above what an int can be

		{8191, 7, 1, true},
		{8192, 7, 1, false},
		{8191, 7, 512, true},
		{8192, 7, 512, false},
		{8190, 7, 513, true},
		{8191, 7, 513, false},
		{8190, 7, 1024, true},
		{8191, 7, 1024, false},
		{8189, 7, 1025, true},
		{8190, 7, 1025, false},
		{8064, 7, 65536, true},
		{8065, 7, 65536, false},
		{8065, 7, 65024, true},
		{8064, 7, 65025, true},
		{8065, 7, 65025, false},
		{2, 1, 65536, true},

		{1, 0, 0, false},
		{0, 0, 0, false},
		{math.MaxInt, math.MaxInt, math.MaxInt, false},
		{math.MinInt, math.MinInt, math.MinInt, false},
	} {
		for _, sum := range []uint32{0, 1, math.MaxUint32} { // the sums are not asked
			p := api.Pointer{At: c.at, Birth: c.birth, Length: c.length, Crc: sum, Sha: [32]byte{byte(sum)}}
			if got := pointer.Right(p); got != c.want {
				t.Errorf("Right of At %d, Birth %d, Length %d = %t, want %t", c.at, c.birth, c.length, got, c.want)
			}
		}
	}
}

// isRight tells P6.1 by the sectors that a length needs, one taken after the other.
func isRight(at, birth, length int) bool {
	if birth < 1 || birth > lastBirth || length < 1 || length > most || at < 2 || at > sectors {
		return false
	}
	for ; length > 0; length -= sector {
		at++
	}
	return at <= sectors
}

func TestRightOfAllEdges(t *testing.T) { // P6.1: each number with all the others
	right := 0
	for _, at := range edges() {
		for _, birth := range edges() {
			for _, length := range edges() {
				want := isRight(at, birth, length)
				if got := pointer.Right(api.Pointer{At: at, Birth: birth, Length: length}); got != want {
					t.Fatalf("Right of At %d, Birth %d, Length %d = %t, want %t", at, birth, length, got, want)
				}
				if want {
					right++
				}
			}
		}
	}
	if right == 0 {
		t.Error("no pointer of the edges is right")
	}
}

func TestSectors(t *testing.T) { // P6.1
	for _, c := range []struct{ length, want int }{
		{math.MinInt, 0}, {-65536, 0}, {-513, 0}, {-512, 0}, {-1, 0}, {0, 0},
		{1, 1}, {2, 1}, {511, 1}, {512, 1}, {513, 2}, {1023, 2}, {1024, 2}, {1025, 3},
		{65024, 127}, {65025, 128}, {65535, 128}, {65536, 128},
		{65537, 0}, {65536 + 512, 0}, {1 << 32, 0}, {1<<32 + 1, 0}, {math.MaxInt - 511, 0}, {math.MaxInt - 1, 0}, {math.MaxInt, 0},
	} {
		for _, p := range []api.Pointer{{}, {At: 8, Birth: 9, Crc: 10}, {At: math.MaxInt, Birth: -1}} { // no other field is asked
			p.Length = c.length
			if got := pointer.Sectors(p); got != c.want {
				t.Errorf("Sectors of %+v = %d, want %d", p, got, c.want)
			}
		}
	}
}

func TestSectorsOfAllLengths(t *testing.T) { // P6.1: just as many as hold the bytes
	for n := 1; n <= most; n++ {
		got := pointer.Sectors(api.Pointer{Length: n})
		if got*sector < n || (got-1)*sector >= n {
			t.Fatalf("Sectors of a Length of %d = %d", n, got)
		}
	}
}

func TestOf(t *testing.T) { // P6.2
	p := pointer.Of(7, 9, []byte("123456789"))
	if p.At != 7 || p.Birth != 9 || p.Length != 9 || p.Crc != 0xe3069283 {
		t.Errorf("Of(7, 9, 123456789) = %+v", p)
	}
	if p = pointer.Of(7, 9, []byte("abc")); p.Sha[0] != 0xba || p.Sha[1] != 0x78 || p.Sha[31] != 0xad {
		t.Errorf("the Sha of abc is %x", p.Sha)
	}
	for _, n := range []int{0, 1, 2, 63, 64, 511, 512, 513, 65535, 65536, 65537, 100000} {
		b, untouched := roomy(full(n, n%251))
		if got, want := pointer.Of(100, 7, b), made(100, 7, full(n, n%251)); got != want {
			t.Errorf("Of %d bytes = %+v, want %+v", n, got, want)
		}
		if !untouched() {
			t.Errorf("Of %d bytes changed what was handed in", n)
		}
	}
}

func TestOfNothing(t *testing.T) { // P6.2: no bytes have their sums too
	for _, b := range [][]byte{nil, {}, full(9, 1)[:0]} {
		if got, want := pointer.Of(5, 6, b), made(5, 6, nil); got != want {
			t.Errorf("Of no bytes = %+v, want %+v", got, want)
		}
		if got := pointer.Of(0, 0, b); got.Sha != sha256.Sum256(nil) || got.Sha == [32]byte{} {
			t.Errorf("Of no bytes at 0, born in 0 = %+v", got)
		}
	}
}

func TestOfWhatIsNotRight(t *testing.T) { // P6.2: it is not asked
	b := full(600, 3)
	for _, at := range edges() {
		for _, birth := range edges() {
			got := pointer.Of(at, birth, b)
			if got.At != at || got.Birth != birth {
				t.Errorf("Of(%d, %d) is at %d, born in %d", at, birth, got.At, got.Birth)
			}
		}
	}
	for _, c := range [][2]int{{0, 0}, {-1, -1}, {math.MinInt, math.MaxInt}, {8192, 1}} {
		if got, want := pointer.Of(c[0], c[1], b), made(c[0], c[1], b); got != want {
			t.Errorf("Of(%d, %d) = %+v, want %+v", c[0], c[1], got, want)
		}
	}
}

// checks asks what Check tells, and whether it leaves the bytes as they are.
func checks(t *testing.T, what string, p api.Pointer, b []byte, want api.Errno) {
	t.Helper()
	in, untouched := roomy(b)
	if got := pointer.Check(p, in); got != want {
		t.Errorf("%s: Check = %d, want %d", what, int(got), int(want))
	}
	if !untouched() {
		t.Errorf("%s: Check changed what was handed in", what)
	}
}

var lengths = []int{1, 2, 511, 512, 513, 1000, 65535, 65536}

func TestCheck(t *testing.T) { // P6.2, P6.4: bytes with their pointer, wherever they lie
	for _, n := range lengths {
		b := full(n, n%251)
		last := sectors - (n+sector-1)/sector
		for _, at := range []int{2, 3, 1000, last} {
			for _, birth := range []int{1, 2, lastBirth - 1, lastBirth} {
				checks(t, "by other sums", made(at, birth, b), b, api.OK)
				checks(t, "by Of", pointer.Of(at, birth, b), b, api.OK)
			}
		}
	}
}

func TestCheckOfWrongPointers(t *testing.T) { // P6.2: asked first, whether the bytes are the pointer's or not
	b := full(700, 5)
	for what, p := range map[string]api.Pointer{
		"At 1":          made(1, 7, b),
		"At 0":          made(0, 7, b),
		"At below 0":    made(-5, 7, b),
		"At 8191":       made(8191, 7, b),
		"At 8192":       made(8192, 7, b),
		"At greatest":   made(math.MaxInt, 7, b),
		"At least":      made(math.MinInt, 7, b),
		"Birth 0":       made(100, 0, b),
		"Birth below 0": made(100, -1, b),
		"Birth beyond":  made(100, lastBirth+1, b),
		"Birth least":   made(100, math.MinInt, b),
		"Birth highest": made(100, math.MaxInt, b),
	} {
		checks(t, what, p, b, api.ErrArg)
		checks(t, what+", other bytes", p, full(700, 6), api.ErrArg)
		checks(t, what+", no bytes", p, nil, api.ErrArg)
	}
	for _, n := range []int{0, most + 1, 2 * most} {
		other := full(n, 1)
		checks(t, "a wrong length", made(100, 7, other), other, api.ErrArg)
		checks(t, "a wrong length, other bytes", made(100, 7, other), b, api.ErrArg)
	}
	for _, n := range []int{-1, -700, math.MinInt, math.MaxInt} {
		p := made(100, 7, b)
		p.Length = n
		checks(t, "a length that is none", p, b, api.ErrArg)
	}
	checks(t, "None", api.Pointer{}, nil, api.ErrArg)
	checks(t, "None, of bytes", api.Pointer{}, b, api.ErrArg)
}

func TestCheckOfOtherLengths(t *testing.T) { // P6.2
	for _, n := range lengths {
		all := full(n+1, 9)
		b, p := all[:n], made(2, 7, all[:n])
		checks(t, "one byte more", p, all, api.ErrSum)
		checks(t, "a zero more", p, slices.Concat(b, []byte{0}), api.ErrSum)
		checks(t, "one byte less", p, b[:n-1], api.ErrSum)
		checks(t, "without the first byte", p, b[1:], api.ErrSum)
		checks(t, "no bytes", p, nil, api.ErrSum)
		checks(t, "a sector more", p, slices.Concat(b, make([]byte, sector)), api.ErrSum)
		checks(t, "twice", p, slices.Concat(b, b), api.ErrSum)
		for _, other := range []int{n - 1, n + 1, 1, most} { // the sums alone are not enough
			if p.Length = other; other != n && other >= 1 && other <= most {
				checks(t, "the sums, and another Length", p, b, api.ErrSum)
			}
		}
	}
	zeros := make([]byte, 700) // the bytes behind the length are not read, though they'd be right
	if got := pointer.Check(made(2, 7, zeros), zeros[:699]); got != api.ErrSum {
		t.Errorf("Check of 699 zeros of 700 = %d, want ErrSum", int(got))
	}
}

func TestCheckOfTurnedBytes(t *testing.T) { // P6.2: each bit of small ones, and all over great ones
	for _, n := range lengths {
		b := full(n, 11)
		p := made(2, 7, b)
		step := max(1, n*8/1000)
		for bit := 0; bit < n*8; bit += step {
			if got := pointer.Check(p, turned(b, bit)); got != api.ErrSum {
				t.Fatalf("Check of %d bytes with the bit %d turned = %d, want ErrSum", n, bit, int(got))
			}
		}
		if got := pointer.Check(p, turned(b, n*8-1)); got != api.ErrSum {
			t.Errorf("Check of %d bytes with the last bit turned = %d, want ErrSum", n, int(got))
		}
		checks(t, "none turned", p, b, api.OK)
	}
}

func TestCheckOfOtherSums(t *testing.T) { // P6.2: each sum is asked, and each bit of it
	for _, n := range []int{1, 512, 700} {
		b := full(n, 12)
		for bit := range 32 {
			p := made(2, 7, b)
			p.Crc ^= 1 << bit
			checks(t, "another Crc", p, b, api.ErrSum)
		}
		for bit := range 256 {
			p := made(2, 7, b)
			copy(p.Sha[:], turned(p.Sha[:], bit))
			checks(t, "another Sha", p, b, api.ErrSum)
		}
		p := made(2, 7, b)
		p.Crc = 0
		checks(t, "no Crc", p, b, api.ErrSum)
		p = made(2, 7, b)
		p.Sha = [32]byte{}
		checks(t, "no Sha", p, b, api.ErrSum)
	}
}

func TestPut(t *testing.T) { // P6.3
	if pointer.Size != size {
		t.Errorf("Size = %d, want %d", pointer.Size, size)
	}
	for _, c := range []struct {
		p    api.Pointer
		want string // but for the Sha
	}{
		{api.Pointer{}, "\x00\x00\x00\x00" + "\x00\x00\x00\x00" + "\x00\x00\x00\x00\x00\x00\x00\x00" + "\x00\x00\x00\x00"},
		{api.Pointer{At: 0x11, Length: 0x2222, Birth: 0x33, Crc: 0x44}, "\x11\x00\x00\x00" + "\x22\x22\x00\x00" + "\x33\x00\x00\x00\x00\x00\x00\x00" + "\x44\x00\x00\x00"},
		{api.Pointer{At: 0x01020304, Length: 0x05060708, Birth: 0x0910111213141516, Crc: 0x81828384},
			"\x04\x03\x02\x01" + "\x08\x07\x06\x05" + "\x16\x15\x14\x13\x12\x11\x10\x09" + "\x84\x83\x82\x81"},
		{api.Pointer{At: 8191, Length: 65536, Birth: lastBirth, Crc: math.MaxUint32},
			"\xff\x1f\x00\x00" + "\x00\x00\x01\x00" + "\x00\x00\x00\x00\x00\x00\x00\x10" + "\xff\xff\xff\xff"},
		// Numbers that do not fit, and numbers below 0: modulo what fits.
		{api.Pointer{At: 1<<32 - 1, Length: 1<<32 - 1}, "\xff\xff\xff\xff" + "\xff\xff\xff\xff" + "\x00\x00\x00\x00\x00\x00\x00\x00" + "\x00\x00\x00\x00"},
		{api.Pointer{At: 1 << 32, Length: 1<<32 + 1}, "\x00\x00\x00\x00" + "\x01\x00\x00\x00" + "\x00\x00\x00\x00\x00\x00\x00\x00" + "\x00\x00\x00\x00"},
		{api.Pointer{At: 7<<40 + 2, Length: 5<<32 + 513, Birth: 3}, "\x02\x00\x00\x00" + "\x01\x02\x00\x00" + "\x03\x00\x00\x00\x00\x00\x00\x00" + "\x00\x00\x00\x00"},
		{api.Pointer{At: math.MaxInt, Length: math.MaxInt, Birth: math.MaxInt}, "\xff\xff\xff\xff" + "\xff\xff\xff\xff" + "\xff\xff\xff\xff\xff\xff\xff\x7f" + "\x00\x00\x00\x00"},
		{api.Pointer{At: math.MinInt, Length: math.MinInt, Birth: math.MinInt}, "\x00\x00\x00\x00" + "\x00\x00\x00\x00" + "\x00\x00\x00\x00\x00\x00\x00\x80" + "\x00\x00\x00\x00"},
		{api.Pointer{At: -1, Length: -2, Birth: -3}, "\xff\xff\xff\xff" + "\xfe\xff\xff\xff" + "\xfd\xff\xff\xff\xff\xff\xff\xff" + "\x00\x00\x00\x00"},
		{api.Pointer{At: -1 << 32, Length: -1<<32 - 1, Birth: -1 << 32}, "\x00\x00\x00\x00" + "\xff\xff\xff\xff" + "\x00\x00\x00\x00\xff\xff\xff\xff" + "\x00\x00\x00\x00"},
	} {
		for _, sha := range [][32]byte{{}, rising(1), rising(200)} {
			c.p.Sha = sha
			want := c.want + string(sha[:])
			for _, b := range []string{"", "a", "ab\x00", string(full(500, 1))} { // it lies behind them
				if got := pointer.Put([]byte(b), c.p); string(got) != b+want {
					t.Errorf("Put behind %d bytes of %+v = %x, want %x", len(b), c.p, got, b+want)
				}
			}
		}
	}
	if got := pointer.Put(nil, api.Pointer{At: 2}); string(got) != "\x02"+string(make([]byte, size-1)) {
		t.Errorf("Put behind nil = %x", got)
	}
}

func TestPutMemory(t *testing.T) { // P6.3: what is handed in is left as it was, and is not what is told
	p := made(2, 7, full(3, 1))
	for _, n := range []int{0, 1, 3, size, 1000} {
		b, untouched := roomy(full(n, 2))
		got := pointer.Put(b, p)
		if !untouched() {
			t.Errorf("Put behind %d bytes changed what was handed in", n)
		}
		if bytes.IndexByte(got[len(got):cap(got)], 0xee) >= 0 {
			t.Errorf("Put behind %d bytes hands out the spare room", n)
		}
		again := pointer.Put(b, p)
		want := slices.Clone(again)
		whole := got[:cap(got)]
		for i := range whole {
			whole[i] ^= 0x55
		}
		if !untouched() || !bytes.Equal(again, want) {
			t.Errorf("Put behind %d bytes answers no memory of its own", n)
		}
	}
	if p != made(2, 7, full(3, 1)) {
		t.Error("Put changed the pointer")
	}
}

func TestPutOnPut(t *testing.T) { // P6.3: behind a pointer lies another one, and from one row go on two
	b := pointer.Put(nil, made(2, 7, full(3, 1)))
	one, other := pointer.Put(b, made(9, 8, full(4, 2))), pointer.Put(b, made(5, 6, full(5, 3)))
	for i, c := range []struct {
		b    []byte
		want api.Pointer
	}{
		{one, made(2, 7, full(3, 1))}, {one[size:], made(9, 8, full(4, 2))},
		{other, made(2, 7, full(3, 1))}, {other[size:], made(5, 6, full(5, 3))},
	} {
		if got, e := pointer.Read(c.b); got != c.want || e != api.OK {
			t.Errorf("%d: Read = %+v, %d, want %+v", i, got, int(e), c.want)
		}
	}
	if len(b) != size || len(one) != 2*size || len(other) != 2*size {
		t.Errorf("the rows have %d, %d and %d bytes", len(b), len(one), len(other))
	}
}

// reads asks what Read tells, and whether it leaves the bytes as they are.
func reads(t *testing.T, b []byte, want api.Pointer, e api.Errno) {
	t.Helper()
	in, untouched := roomy(b)
	if got, gotE := pointer.Read(in); got != want || gotE != e {
		t.Errorf("Read(%d bytes, %x) = %+v, %d, want %+v, %d", len(b), b[:min(len(b), 20)], got, int(gotE), want, int(e))
	}
	if !untouched() {
		t.Errorf("Read(%x) changed what was handed in", b)
	}
}

func TestRead(t *testing.T) { // P6.3: just as many bytes, and more, whatever they are
	sha := rising(3)
	for _, c := range []struct {
		at, length uint32
		birth      uint64
		crc        uint32
	}{
		{2, 1, 1, 0},
		{2, 65536, 1 << 60, math.MaxUint32},
		{8191, 512, 0x0102030405060708, 0x81828384},
		{0x1234, 0x5678, 0x0fedcba987654321, 0x12345678},
		{8064, 65536, 7, 9},
	} {
		want := api.Pointer{At: int(c.at), Birth: int(c.birth), Length: int(c.length), Crc: c.crc, Sha: sha}
		b := raw(c.at, c.length, c.birth, c.crc, sha)
		for _, behind := range [][]byte{nil, {0}, {255}, make([]byte, size), bytes.Repeat([]byte{0xff}, 1000), b} {
			reads(t, slices.Concat(b, behind), want, api.OK)
		}
	}
}

func TestReadOfZeros(t *testing.T) { // P6.3: None
	zeros := make([]byte, size)
	for _, behind := range [][]byte{nil, {1}, make([]byte, 9), bytes.Repeat([]byte{0xff}, size)} {
		reads(t, slices.Concat(zeros, behind), api.Pointer{}, api.OK)
	}
}

func TestReadOfFewBytes(t *testing.T) { // P6.3: whatever they are; what lies behind the length is not read
	for _, b := range [][]byte{make([]byte, size), bytes.Repeat([]byte{0xff}, size), raw(2, 1, 1, 5, rising(1)), raw(1, 1, 1, 5, rising(1))} {
		for n := range size {
			reads(t, b[:n], api.Pointer{}, api.ErrEnd)
			if got, e := pointer.Read(b[:n]); got != (api.Pointer{}) || e != api.ErrEnd {
				t.Errorf("Read of %d bytes = %+v, %d, want ErrEnd", n, got, int(e))
			}
		}
	}
	reads(t, nil, api.Pointer{}, api.ErrEnd)
	if got, e := pointer.Read(nil); got != (api.Pointer{}) || e != api.ErrEnd {
		t.Errorf("Read of nil = %+v, %d, want ErrEnd", got, int(e))
	}
}

func TestReadOfWrongBytes(t *testing.T) { // P6.3: neither None nor Right
	sha := rising(4)
	for _, b := range [][]byte{
		raw(0, 700, 7, 9, sha), raw(1, 700, 7, 9, sha), // At
		raw(8191, 700, 7, 9, sha), raw(8192, 700, 7, 9, sha), raw(8192, 1, 7, 9, sha), raw(8065, 65536, 7, 9, sha),
		raw(65536+2, 700, 7, 9, sha), raw(1<<31, 700, 7, 9, sha), raw(1<<31+2, 700, 7, 9, sha), raw(math.MaxUint32, 700, 7, 9, sha),
		raw(100, 0, 7, 9, sha), raw(100, 65537, 7, 9, sha), raw(100, 65536+700, 7, 9, sha), // Length
		raw(100, 1<<31, 7, 9, sha), raw(100, 1<<31+1, 7, 9, sha), raw(100, math.MaxUint32, 7, 9, sha),
		raw(100, 700, 0, 9, sha), raw(100, 700, 1<<60+1, 9, sha), raw(100, 700, 1<<61, 9, sha), // Birth
		raw(100, 700, 1<<62+1, 9, sha), raw(100, 700, 1<<63-1, 9, sha), raw(100, 700, 1<<63, 9, sha),
		raw(100, 700, 1<<63+7, 9, sha), raw(100, 700, math.MaxUint64, 9, sha),
		raw(0, 0, 0, 9, sha), raw(0, 0, 0, 0, sha), raw(0, 0, 0, 9, [32]byte{}), // some of it is None's
		raw(0, 0, 7, 0, [32]byte{}), raw(0, 700, 0, 0, [32]byte{}), raw(100, 0, 0, 0, [32]byte{}),
		raw(0, 0, 1<<63, 0, [32]byte{}), raw(1<<31, 0, 0, 0, [32]byte{}), raw(0, 1<<31, 0, 0, [32]byte{}),
		bytes.Repeat([]byte{0xff}, size), bytes.Repeat([]byte{1}, size),
	} {
		reads(t, b, api.Pointer{}, api.ErrForm)
		reads(t, slices.Concat(b, raw(2, 1, 1, 0, sha)), api.Pointer{}, api.ErrForm)
	}
	for bit := range size * 8 { // zeros but for one bit
		reads(t, turned(make([]byte, size), bit), api.Pointer{}, api.ErrForm)
	}
	if _, e := pointer.Read(raw(100, 700, 7, 9, sha)); e != api.OK {
		t.Errorf("Read of what the wrong ones are made from = %d", int(e))
	}
}

func TestPutIsRead(t *testing.T) { // P6.4: right ones and none, whatever stands behind, and as they were
	l := []api.Pointer{{}}
	for _, at := range edges() {
		for _, birth := range edges() {
			for _, length := range edges() {
				if isRight(at, birth, length) {
					l = append(l, api.Pointer{At: at, Birth: birth, Length: length, Crc: uint32(at * birth), Sha: rising(byte(length))})
				}
			}
		}
	}
	for _, p := range l {
		b := pointer.Put(nil, p)
		if len(b) != size {
			t.Fatalf("Put of %+v has %d bytes", p, len(b))
		}
		for _, behind := range [][]byte{nil, {7}, bytes.Repeat([]byte{0xff}, size)} {
			reads(t, slices.Concat(b, behind), p, api.OK)
		}
		reads(t, pointer.Put(full(40, 1), p)[40:], p, api.OK)
	}
}

func TestWrongOnesAreNotRead(t *testing.T) { // P6.3: what Put lays of a pointer is read by what fits of it
	for _, at := range edges() {
		for _, length := range edges() {
			for _, birth := range []int{math.MinInt, -1, 0, 1, lastBirth, lastBirth + 1, math.MaxInt} {
				p := api.Pointer{At: at, Birth: birth, Length: length, Crc: 5}
				want, e := api.Pointer{At: int(uint32(at)), Birth: birth, Length: int(uint32(length)), Crc: 5}, api.OK
				if !isRight(want.At, want.Birth, want.Length) {
					want, e = api.Pointer{}, api.ErrForm
				}
				if got, gotE := pointer.Read(pointer.Put(nil, p)); got != want || gotE != e {
					t.Fatalf("Read of Put of %+v = %+v, %d, want %+v, %d", p, got, int(gotE), want, int(e))
				}
			}
		}
	}
}

func TestReadIsPut(t *testing.T) { // P6.4: a pointer has one form
	for seed := range 250 {
		sha := rising(byte(seed))
		b := raw(uint32(2+seed*30), uint32(1+seed*200), uint64(1+seed*seed*1000003), uint32(seed)*0x01010101, sha)
		p, e := pointer.Read(b)
		if e != api.OK || !bytes.Equal(pointer.Put(nil, p), b) {
			t.Errorf("Put of Read of %x = %x, %d", b, pointer.Put(nil, p), int(e))
		}
	}
}

func TestBytesWithTheirPointer(t *testing.T) { // P6.4: made, laid, read, and checked
	for _, n := range lengths {
		b := full(n, n%251)
		p, e := pointer.Read(pointer.Put([]byte("ahead"), pointer.Of(8192-128, 7, b))[5:])
		if e != api.OK {
			t.Fatalf("Read of Put of Of %d bytes = %d", n, int(e))
		}
		checks(t, "bytes with their pointer", p, b, api.OK)
		checks(t, "other bytes", p, full(n, n%251+1), api.ErrSum)
	}
}
