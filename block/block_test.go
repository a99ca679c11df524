package block_test

import (
	"bytes"
	"crypto/sha256"
	"hash/crc32"
	"math"
	"slices"
	"testing"

	"shadowbox/api"
	"shadowbox/block"
	"shadowbox/disk"
)

// The limits, as the document tells them.
const (
	size      = 512 // bytes of a sector
	most      = 65536
	sectors   = 8192
	lastBirth = 1 << 60
)

var castagnoli = crc32.MakeTable(crc32.Castagnoli)

// full answers a text of n bytes, none of which is 0, that is another one for each seed from 0 to 250.
func full(n, seed int) []byte {
	b := make([]byte, n)
	for i := range b {
		b[i] = byte((i*7+seed)%251 + 1)
	}
	return b
}

// needs answers how many sectors n bytes take.
func needs(n int) int { return (n + size - 1) / size }

// padded answers the bytes of all sectors that b takes.
func padded(b []byte) []byte {
	return append(slices.Clone(b), make([]byte, needs(len(b))*size-len(b))...)
}

// of answers the pointer of bytes by sums that are not the program's.
func of(at, birth int, b []byte) api.Pointer {
	return api.Pointer{At: at, Birth: birth, Length: len(b), Crc: crc32.Checksum(b, castagnoli), Sha: sha256.Sum256(b)}
}

// made answers a disk of n sectors of zeros.
func made(t *testing.T, n int) *disk.Disk {
	t.Helper()
	d, e := disk.New(n)
	if e != api.OK || d == nil {
		t.Fatalf("New(%d) = %v", n, e)
	}
	return d
}

// lay writes bytes into sectors, one behind the other, sector by sector, without the calls of the package.
func lay(t *testing.T, d *disk.Disk, at int, b []byte) {
	t.Helper()
	for i := range needs(len(b)) {
		if e := d.Write(at+i, b[i*size:min(i*size+size, len(b))]); e != api.OK {
			t.Fatalf("the disk's Write(%d) = %v", at+i, e)
		}
	}
}

// worn answers a disk of n sectors, all of which are full of other bytes that last.
func worn(t *testing.T, n int) *disk.Disk {
	t.Helper()
	d := made(t, n)
	lay(t, d, 0, full(n*size, 100))
	flush(t, d)
	return d
}

func flush(t *testing.T, d *disk.Disk) {
	t.Helper()
	if e := d.Flush(); e != api.OK {
		t.Fatalf("Flush = %v", e)
	}
}

func crash(t *testing.T, d *disk.Disk, keep ...int) *disk.Disk {
	t.Helper()
	found, e := d.Crash(keep)
	if e != api.OK {
		t.Fatalf("Crash(%d) = %v", keep, e)
	}
	return found
}

// all tells all sectors, side by side.
func all(t *testing.T, d *disk.Disk) []byte {
	t.Helper()
	out := []byte{}
	for at := range d.Len() {
		b, e := d.Read(at)
		if e != api.OK {
			t.Fatalf("the disk's Read(%d) = %v", at, e)
		}
		out = append(out, b...)
	}
	return out
}

// over answers what a disk is, that was so, where the sectors from at on are other bytes.
func over(was []byte, at int, b []byte) []byte {
	out := slices.Clone(was)
	copy(out[at*size:], padded(b))
	return out
}

// holds asks whether a disk's sectors are these bytes, and how many of them wait.
func holds(t *testing.T, what string, d *disk.Disk, want []byte, waiting int) {
	t.Helper()
	got := all(t, d)
	for at := range d.Len() {
		if !bytes.Equal(got[at*size:at*size+size], want[at*size:at*size+size]) {
			t.Errorf("%s: the sector %d is %x .., want %x ..", what, at, got[at*size:at*size+8], want[at*size:at*size+8])
		}
	}
	if d.Waiting() != waiting {
		t.Errorf("%s: %d sectors wait, want %d", what, d.Waiting(), waiting)
	}
}

// roomy answers b with spare room behind it, and a look at whether anything of both was changed.
func roomy(b []byte) (out []byte, untouched func() bool) {
	whole := slices.Concat(b, bytes.Repeat([]byte{0xee}, 2*size))
	want := slices.Clone(whole)
	return whole[:len(b)], func() bool { return bytes.Equal(whole, want) }
}

// writes asks whether Write tells the pointer of bytes, and leaves them as they are.
func writes(t *testing.T, d *disk.Disk, at, birth int, b []byte) api.Pointer {
	t.Helper()
	in, untouched := roomy(b)
	got, e := block.Write(d, at, birth, in)
	if want := of(at, birth, b); got != want || e != api.OK {
		t.Fatalf("Write(%d, %d, %d bytes) = %+v, %d, want %+v", at, birth, len(b), got, int(e), want)
	}
	if !untouched() {
		t.Fatalf("Write(%d, %d, %d bytes) changed what was handed in", at, birth, len(b))
	}
	return got
}

// refuses asks whether Write tells an error, and no pointer, and leaves the bytes as they are.
func refuses(t *testing.T, d *disk.Disk, at, birth int, b []byte, want api.Errno) {
	t.Helper()
	in, untouched := roomy(b)
	if got, e := block.Write(d, at, birth, in); got != (api.Pointer{}) || e != want {
		t.Errorf("Write(%d, %d, %d bytes) = %+v, %d, want none and %d", at, birth, len(b), got, int(e), int(want))
	}
	if !untouched() {
		t.Errorf("Write(%d, %d, %d bytes) changed what was handed in", at, birth, len(b))
	}
}

// reads asks whether Read tells these bytes.
func reads(t *testing.T, what string, d *disk.Disk, p api.Pointer, want []byte) {
	t.Helper()
	if got, e := block.Read(d, p); !bytes.Equal(got, want) || e != api.OK {
		t.Errorf("%s: Read by %+v = %d bytes, %d, want %d bytes", what, p, len(got), int(e), len(want))
	}
}

// fails asks whether Read tells an error, and no bytes.
func fails(t *testing.T, what string, d *disk.Disk, p api.Pointer, want api.Errno) {
	t.Helper()
	if got, e := block.Read(d, p); len(got) != 0 || e != want {
		t.Errorf("%s: Read by %+v = %d bytes, %d, want none and %d", what, p, len(got), int(e), int(want))
	}
}

var lengths = []int{1, 2, 511, 512, 513, 1023, 1024, 1025, 65024, 65025, 65535, 65536}

func TestExample(t *testing.T) { // the chapter's example 1
	d := worn(t, 12)
	was, b := all(t, d), full(513, 1)
	p := writes(t, d, 7, 3, b)
	holds(t, "513 bytes at 7", d, over(was, 7, b), 2)
	reads(t, "513 bytes at 7", d, p, b)
	holds(t, "a crash that kept the first one", crash(t, d, size, 0), over(was, 7, b[:size]), 0) // those that wait are 7 and 8
}

func TestNoDisk(t *testing.T) { // P7.1, P7.2: ErrNil is told ahead of all else
	for _, d := range []*disk.Disk{nil, {}, new(disk.Disk)} {
		for _, n := range []int{0, 1, size, size + 1, most, most + 1} {
			refuses(t, d, 2, 1, full(n, 1), api.ErrNil)
			fails(t, "no disk", d, of(2, 1, full(n, 1)), api.ErrNil)
		}
		for _, at := range []int{math.MinInt, -1, 0, 1, 2, 100, sectors, math.MaxInt} {
			for _, birth := range []int{math.MinInt, 0, 1, lastBirth, lastBirth + 1, math.MaxInt} {
				refuses(t, d, at, birth, full(700, 1), api.ErrNil)
				fails(t, "no disk", d, of(at, birth, full(700, 1)), api.ErrNil)
			}
		}
		refuses(t, d, 2, 1, nil, api.ErrNil)
		fails(t, "no disk, no pointer", d, api.Pointer{}, api.ErrNil)
		if d.Len() != 0 {
			t.Error("there is a disk where none was")
		}
	}
}

func TestWriteOfLengths(t *testing.T) { // P7.1: over other bytes, and between others that stay
	for _, n := range lengths {
		for _, begin := range []func(*testing.T, int) *disk.Disk{made, worn} {
			d := begin(t, 140)
			was, b := all(t, d), full(n, n%250)
			writes(t, d, 5, 7, b)
			holds(t, "Write", d, over(was, 5, b), needs(n))
			flush(t, d)
			holds(t, "Write and Flush", d, over(was, 5, b), 0)
		}
	}
}

func TestWriteOfOneSector(t *testing.T) { // P7.1: each length of one, with zeros to its end
	d := worn(t, 5)
	for n := 1; n <= size; n++ {
		for _, birth := range []int{n, lastBirth - n} {
			lay(t, d, 3, full(size, 100))
			flush(t, d)
			was, b := all(t, d), full(n, n%251)
			writes(t, d, 3, birth, b)
			holds(t, "Write", d, over(was, 3, b), 1)
		}
	}
}

func TestWriteOfWrongLengths(t *testing.T) { // P7.1: no bytes, and more than a block has
	d := worn(t, 400)
	was := all(t, d)
	for _, b := range [][]byte{nil, {}, full(size, 1)[:0], full(most+1, 1), full(most+size, 1), full(2*most, 1)} {
		for range 2 {
			refuses(t, d, 2, 1, b, api.ErrArg)
			refuses(t, d, 200, lastBirth, b, api.ErrArg)
		}
	}
	if p, e := block.Write(d, 2, 1, nil); p != (api.Pointer{}) || e != api.ErrArg {
		t.Errorf("Write of nil = %+v, %d, want ErrArg", p, int(e))
	}
	holds(t, "refused Writes", d, was, 0)
	writes(t, d, 2, 1, full(most, 1))
}

func TestWriteAtPlaces(t *testing.T) { // P7.1: from the sector 2 on, up to the disk's last one
	for _, n := range []int{1, 3, 4, 5, 10, 129, 130, 131, sectors - 1, sectors} {
		d := worn(t, n)
		was := all(t, d)
		for _, length := range []int{1, size, size + 1, 2 * size, 2*size + 1, most} {
			b, last := full(length, 3), n-needs(length)
			for _, at := range []int{math.MinInt, math.MinInt + 1, -1 << 32, -sectors, -2, -1, 0, 1, last + 1, last + 2, n - 1, n, n + 1, sectors - 1, sectors, 1 << 32, 1<<32 + 2, 1 << 62, math.MaxInt - 1, math.MaxInt} {
				if at < 2 || at > last {
					refuses(t, d, at, 1, b, api.ErrArg)
				}
			}
			holds(t, "refused Writes", d, was, 0)
			for _, at := range []int{2, 3, last - 1, last} {
				if at < 2 || at > last {
					continue
				}
				writes(t, d, at, 1, b)
				if n < 200 {
					holds(t, "Write", d, over(was, at, b), needs(length))
				}
				lay(t, d, at, was[at*size:(at+needs(length))*size])
				flush(t, d)
			}
		}
		holds(t, "all is as it was", d, was, 0)
	}
}

func TestWriteOfBirths(t *testing.T) { // P7.1: they are told, and change nothing else
	d := worn(t, 10)
	was, b := all(t, d), full(700, 4)
	for _, birth := range []int{math.MinInt, math.MinInt + 1, -lastBirth, -1, 0, lastBirth + 1, lastBirth + 2, 1 << 61, 1<<62 + 1, math.MaxInt} {
		refuses(t, d, 4, birth, b, api.ErrArg)
	}
	holds(t, "refused Writes", d, was, 0)
	for _, birth := range []int{1, 2, 3, 1 << 32, lastBirth - 1, lastBirth} {
		writes(t, d, 4, birth, b)
		holds(t, "Write", d, over(was, 4, b), 2)
	}
}

func TestWriteKeepsNothing(t *testing.T) { // P7.1: what was handed in may be changed behind the call
	b, d := full(1000, 5), made(t, 10)
	p, e := block.Write(d, 2, 1, b)
	if e != api.OK {
		t.Fatal(int(e))
	}
	clear(b)
	reads(t, "the bytes handed in are others now", d, p, full(1000, 5))
	flush(t, d)
	reads(t, "and behind a Flush", d, p, full(1000, 5))
}

func TestWriteReadsItsBytesAlone(t *testing.T) { // P7.1: what lies behind the length is not laid
	for _, n := range []int{1, 511, 512, 513, 1000} {
		d, long := made(t, 8), full(4*size, 6)
		p, e := block.Write(d, 3, 1, long[:n])
		if p != of(3, 1, long[:n]) || e != api.OK {
			t.Errorf("Write of %d bytes of more = %+v, %d", n, p, int(e))
		}
		holds(t, "Write", d, over(make([]byte, 8*size), 3, long[:n]), needs(n))
	}
}

func TestWriteWithoutPower(t *testing.T) { // P7.1: ahead of the first sector, between two, behind the last one
	for _, n := range []int{1, 512, 513, 1024, 1025, 5*size - 1, 5 * size} {
		for k := range needs(n) + 2 {
			d := worn(t, 10)
			was, b := all(t, d), full(n, 7)
			d.Fuse(k)
			if k >= needs(n) {
				writes(t, d, 3, 9, b)
				holds(t, "enough power", d, over(was, 3, b), needs(n))
				if want := []api.Errno{api.ErrCut, api.OK}[k-needs(n)]; d.Flush() != want { // a sector takes one write
					t.Errorf("of %d operations Write of %d bytes left too many, or too few", k, n)
				}
				continue
			}
			refuses(t, d, 3, 9, b, api.ErrCut)
			done := over(was, 3, b[:k*size])
			holds(t, "the power went", d, done, k)
			refuses(t, d, 3, 9, b, api.ErrCut)
			refuses(t, d, 6, 9, full(1, 8), api.ErrCut)
			holds(t, "the power is gone", d, done, k)
			holds(t, "and behind a crash", crash(t, d, slices.Repeat([]int{size}, k)...), done, 0)
			fails(t, "what is not written whole", d, of(3, 9, b), api.ErrSum)
		}
	}
}

func TestWrongCallsTakeNoPower(t *testing.T) { // P7.1: ErrArg is told ahead of the disk's error, and takes no write
	d := worn(t, 10)
	was, b := all(t, d), full(700, 8)
	d.Fuse(2)
	for range 2 {
		for _, at := range []int{-1, 0, 1, 9, 10, math.MaxInt} {
			refuses(t, d, at, 1, b, api.ErrArg)
		}
		refuses(t, d, 4, 0, b, api.ErrArg)
		refuses(t, d, 4, lastBirth+1, b, api.ErrArg)
		refuses(t, d, 4, 1, nil, api.ErrArg)
		refuses(t, d, 4, 1, full(most+1, 1), api.ErrArg)
		holds(t, "refused Writes", d, was, d.Waiting())
		if d.Waiting() == 0 {
			writes(t, d, 4, 1, b)
			was = over(was, 4, b)
		}
	}
	refuses(t, d, 4, 1, b, api.ErrCut)
}

func TestReadNeedsNoPower(t *testing.T) { // P7.2: nor takes it any, nor does it change what waits
	d := worn(t, 10)
	b := full(700, 9)
	d.Fuse(3)
	p := writes(t, d, 4, 1, b)
	was := all(t, d)
	for range 5 {
		reads(t, "power is left", d, p, b)
		fails(t, "power is left", d, of(4, 1, full(700, 10)), api.ErrSum)
		fails(t, "power is left", d, of(9, 1, b), api.ErrArg)
	}
	holds(t, "Reads", d, was, 2)
	flush(t, d)
	for range 5 {
		reads(t, "the power is gone", d, p, b)
	}
	holds(t, "Reads", d, was, 0)
}

func TestRead(t *testing.T) { // P7.2: what lies there, whoever laid it, from the sector 2 on up to the last one
	for _, n := range lengths {
		for _, length := range []int{2 + needs(n), 3 + needs(n), 200} {
			for _, at := range []int{2, length - needs(n)} {
				d, b := worn(t, length), full(n, 11)
				lay(t, d, at, b)
				was := all(t, d)
				for _, birth := range []int{1, 2, lastBirth - 1, lastBirth} {
					reads(t, "a block that was laid", d, of(at, birth, b), b)
				}
				holds(t, "Reads", d, was, needs(n))
			}
		}
	}
	d := made(t, sectors)
	lay(t, d, sectors-128, full(most, 12))
	reads(t, "the greatest block at the greatest place", d, of(sectors-128, 1, full(most, 12)), full(most, 12))
}

func TestReadByWrongPointers(t *testing.T) { // P7.2: asked ahead of what lies there
	d, b := made(t, 300), full(700, 13)
	lay(t, d, 0, slices.Repeat(padded(b), 150))
	flush(t, d)
	was := all(t, d)
	reads(t, "the right one", d, of(100, 7, b), b)
	for _, p := range []api.Pointer{
		{}, of(1, 7, b), of(0, 7, b), of(-1, 7, b), of(-100, 7, b), of(math.MinInt, 7, b), of(sectors, 7, b), of(1<<32+100, 7, b), of(math.MaxInt, 7, b), of(math.MaxInt-1, 7, b),
		of(100, 0, b), of(100, -1, b), of(100, math.MinInt, b), of(100, lastBirth+1, b), of(100, math.MaxInt, b),
		of(100, 7, nil), of(2, 7, slices.Repeat(padded(b), 65)[:most+1]), {At: 100}, {At: 100, Birth: 7},
	} {
		fails(t, "a pointer that is not right", d, p, api.ErrArg)
		p.Crc++
		fails(t, "a pointer that is not right, and another Crc", d, p, api.ErrArg)
	}
	for _, n := range []int{0, -1, -700, math.MinInt, most + 1, 1<<32 + 700, math.MaxInt} {
		p := of(100, 7, b)
		p.Length = n
		fails(t, "a Length that is none", d, p, api.ErrArg)
	}
	holds(t, "failed Reads", d, was, 0)
}

func TestReadBeyondTheDisk(t *testing.T) { // P7.2: pointers that are right, of greater disks
	for _, n := range []int{1, 2, 3, 4, 10, 130, 131} {
		d := made(t, n)
		for _, length := range []int{1, size, size + 1, 2 * size, 2*size + 1, most} {
			b := make([]byte, length) // as all of the disk is zeros, only the place is wrong
			last := n - needs(length)
			for _, at := range []int{last + 1, last + 2, n - 1, n, n + 1, sectors - needs(length)} {
				if at >= 2 && at > last {
					fails(t, "beyond the disk", d, of(at, 1, b), api.ErrArg)
				}
			}
			for _, at := range []int{2, last - 1, last} {
				if at >= 2 && at <= last {
					reads(t, "within the disk", d, of(at, 1, b), b)
				}
			}
		}
	}
}

func TestReadOfOtherBytes(t *testing.T) { // P7.2
	for _, n := range lengths {
		d, b := worn(t, 300), full(n, 14)
		p := writes(t, d, 20, 7, b)
		fails(t, "other bytes", d, of(20, 7, full(n, 15)), api.ErrSum)
		fails(t, "zeros", d, of(20, 7, make([]byte, n)), api.ErrSum)
		fails(t, "one sector ahead", d, of(19, 7, b), api.ErrSum)
		fails(t, "one sector behind", d, of(21, 7, b), api.ErrSum)
		fails(t, "where it does not lie", d, of(160, 7, b), api.ErrSum)
		for _, other := range []int{n - 1, n + 1, 1, 512, 513, most} {
			if q := p; other != n && other >= 1 && other <= most {
				q.Length = other
				fails(t, "another Length", d, q, api.ErrSum)
			}
		}
		for bit := range 32 {
			q := p
			q.Crc ^= 1 << bit
			fails(t, "another Crc", d, q, api.ErrSum)
		}
		for i := range 32 {
			q := p
			q.Sha[i] ^= 1 << (i % 8)
			fails(t, "another Sha", d, q, api.ErrSum)
		}
		q := p
		q.Crc = crc32.Checksum(full(n, 15), castagnoli)
		fails(t, "the Crc of other bytes", d, q, api.ErrSum)
		q = p
		q.Sha = sha256.Sum256(full(n, 15))
		fails(t, "the Sha of other bytes", d, q, api.ErrSum)
		q = p
		q.Birth = 8
		reads(t, "another epoch", d, q, b)
		reads(t, "none of these", d, p, b)
	}
}

func TestReadIsAsLongAsItsLength(t *testing.T) { // P7.2: as many as Length, whatever lies behind them
	d, b := worn(t, 10), full(3*size, 16)
	lay(t, d, 4, b)
	for n := 1; n <= len(b); n += 17 {
		reads(t, "the first bytes", d, of(4, 1, b[:n]), b[:n])
	}
	writes(t, d, 4, 1, b[:700])
	reads(t, "with the zeros at the end", d, of(4, 1, padded(b[:700])), padded(b[:700]))
	fails(t, "with what lay there before", d, of(4, 1, b[:1024]), api.ErrSum)
}

// spoil changes bytes that were handed out, and their spare room.
func spoil(b []byte) {
	b = b[:cap(b)]
	for i := range b {
		b[i] ^= 255
	}
}

func TestReadIsNewMemory(t *testing.T) { // P7.2: not the disk's, nor that of another answer; of sectors that wait, and of those that last
	for _, n := range []int{1, 511, 512, 513, 1024, 1500, most} {
		d, b := made(t, 140), full(n, 17)
		p := writes(t, d, 5, 1, b)
		was := all(t, d)
		for _, x := range []*disk.Disk{d, crash(t, d, slices.Repeat([]int{size}, needs(n))...)} {
			waiting := x.Waiting()
			for range 2 {
				first, e1 := block.Read(x, p)
				second, e2 := block.Read(x, p)
				if e1 != api.OK || e2 != api.OK {
					t.Fatal(int(e1), int(e2))
				}
				spoil(first)
				if !bytes.Equal(second, b) {
					t.Errorf("two Reads of %d bytes share memory", n)
				}
				spoil(second)
				reads(t, "the answers are others now", x, p, b)
				holds(t, "the answers are others now", x, was, waiting)
				flush(t, x)
				waiting = 0
			}
		}
	}
}

func TestReadHandsOutNoMore(t *testing.T) { // P7.2: what lies behind the length, in the last sector, is not in the spare room
	d := worn(t, 10)
	for _, n := range []int{1, 100, 513, 700} {
		b := all(t, d)[4*size : 4*size+n]
		got, e := block.Read(d, of(4, 1, b))
		if e != api.OK || !bytes.Equal(got, b) {
			t.Fatalf("Read of %d bytes = %d bytes, %d", n, len(got), int(e))
		}
		for _, c := range got[len(got):cap(got)] {
			if c != 0 {
				t.Fatalf("Read of %d bytes hands out what is behind them", n)
			}
		}
	}
}

func TestWrittenIsRead(t *testing.T) { // P7.3: at once, behind a Flush, and behind a crash
	for _, n := range lengths {
		last := 300 - needs(n)
		for _, at := range []int{2, 3, 100, last} {
			d, b := worn(t, 300), full(n, n%251)
			p := writes(t, d, at, lastBirth, b)
			reads(t, "written", d, p, b)
			reads(t, "a crash that kept all", crash(t, d, slices.Repeat([]int{size}, needs(n))...), p, b)
			fails(t, "a crash that kept nothing", crash(t, d), p, api.ErrSum)
			reads(t, "written, behind crashes", d, p, b)
			flush(t, d)
			reads(t, "flushed", d, p, b)
			for _, keep := range [][]int{nil, {0}, {size}, {1, 2, 3}} {
				found := crash(t, d, keep...)
				reads(t, "flushed, and a crash", found, p, b)
				reads(t, "and another one", crash(t, found, keep...), p, b)
			}
			d.Fuse(0)
			reads(t, "the power is gone", d, p, b)
			reads(t, "the power went, and a crash", crash(t, d), p, b)
		}
	}
}

func TestWrittenBesideOthers(t *testing.T) { // P7.3: blocks side by side, whichever was written first
	for _, order := range [][]int{{0, 1, 2, 3, 4}, {4, 3, 2, 1, 0}, {2, 0, 4, 1, 3}} {
		d := worn(t, 150)
		places, p := []int{2, 3, 5, 6, 134}, make([]api.Pointer, 5)
		b := [][]byte{full(size, 1), full(size+1, 2), full(1, 3), full(most, 4), full(3*size-1, 5)}
		for _, i := range order {
			p[i] = writes(t, d, places[i], i+1, b[i])
		}
		for range 2 {
			for i := range b {
				reads(t, "beside others", d, p[i], b[i])
			}
			flush(t, d)
		}
		writes(t, d, 4, 9, b[2]) // over the second half of one of them
		for i := range b {
			if i == 1 {
				fails(t, "written over", d, p[i], api.ErrSum)
			} else {
				reads(t, "beside one that was written over", d, p[i], b[i])
			}
		}
		d = crash(t, d)
		for i := range b {
			reads(t, "behind a crash", d, p[i], b[i])
		}
	}
}

func TestCrashInAWrite(t *testing.T) { // P7.3: what a crash didn't keep whole is not read
	for _, n := range []int{1, 300, 512, 513, 1200} {
		d, b := worn(t, 10), full(n, 18)
		was := all(t, d)
		p := writes(t, d, 4, 1, b)
		for i := range needs(n) {
			for _, k := range []int{-1, 0, 1, 100, 299, 300, 511, 512} {
				keep := slices.Repeat([]int{size}, needs(n))
				keep[i] = k
				found := crash(t, d, keep...)
				lies := slices.Concat(padded(b)[:i*size+max(k, 0)], was[(4+i)*size+max(k, 0):(5+i)*size], padded(b)[i*size+size:])
				holds(t, "a crash in a Write", found, over(was, 4, lies), 0)
				if bytes.Equal(lies[:n], b) {
					reads(t, "its bytes were kept", found, p, b)
				} else {
					fails(t, "its bytes were not kept", found, p, api.ErrSum)
				}
			}
		}
	}
}

// turn changes one byte of a disk, by the disk's own calls.
func turn(t *testing.T, d *disk.Disk, at, i int, by byte) {
	t.Helper()
	s, e := d.Read(at + i/size)
	if e != api.OK {
		t.Fatalf("the disk's Read(%d) = %v", at+i/size, e)
	}
	s[i%size] ^= by
	lay(t, d, at+i/size, s)
}

func TestTurnedBytes(t *testing.T) { // P7.3: the first, the last, and those in between; turned back it is read
	for _, n := range lengths {
		d, b := worn(t, 140), full(n, 19)
		p := writes(t, d, 5, 1, b)
		bytesOf := []int{0, 1, n / 3, n / 2, n - 2, n - 1}
		for i := size - 1; i < n; i += 7 * size { // both sides of where two sectors meet
			bytesOf = append(bytesOf, i, i+1)
		}
		for _, i := range bytesOf {
			if i < 0 || i >= n {
				continue
			}
			for _, by := range []byte{1, 128, 255, b[i]} {
				turn(t, d, 5, i, by)
				fails(t, "a byte is turned", d, p, api.ErrSum)
				turn(t, d, 5, i, by)
				reads(t, "it is turned back", d, p, b)
			}
		}
		turn(t, d, 5, 0, 4)
		flush(t, d)
		fails(t, "a byte is turned, behind a Flush", d, p, api.ErrSum)
		fails(t, "and a crash", crash(t, d), p, api.ErrSum)
		turn(t, d, 5, 0, 4)
		reads(t, "it is turned back", d, p, b)
	}
}

func TestEachTurnedByte(t *testing.T) { // P7.3: all of a small one, bit by bit; what is behind its end is not asked
	d, b := made(t, 10), full(600, 20)
	p := writes(t, d, 5, 1, b)
	for i := range 2 * size {
		by := byte(1) << (i % 8)
		turn(t, d, 5, i, by)
		if i < len(b) {
			fails(t, "a bit is turned", d, p, api.ErrSum)
		} else {
			reads(t, "a bit behind the end is turned", d, p, b)
		}
		turn(t, d, 5, i, by)
	}
	turn(t, d, 4, size-1, 1)
	turn(t, d, 7, 0, 1)
	reads(t, "the sectors ahead and behind are turned", d, p, b)
}

// kept is a block that was written, and is there.
type kept struct {
	p api.Pointer
	b []byte
}

func TestAgainstLists(t *testing.T) { // P7.1 to P7.3: long rows of calls in no plain order, the same ones each time
	x := uint32(7)
	chance := func(n int) int {
		x = x*1664525 + 1013904223
		return int(x>>8) % n
	}
	for range 40 {
		n := 3 + chance(20)
		d, plain := made(t, n), make([]byte, n*size)
		lasts, blocks := slices.Clone(plain), []kept{}
		for range 60 {
			switch c := chance(10); {
			case c < 6:
				at, birth, b := chance(n+4)-1, 1+chance(9), full(chance(5*size), chance(251))
				if len(b) == 0 || at < 2 || at+needs(len(b)) > n {
					refuses(t, d, at, birth, b, api.ErrArg)
					break
				}
				blocks = append(blocks, kept{writes(t, d, at, birth, b), b})
				plain = over(plain, at, b)
			case c < 8:
				flush(t, d)
				lasts = slices.Clone(plain)
			default:
				d, plain = crash(t, d), slices.Clone(lasts)
			}
			holds(t, "by lists", d, plain, d.Waiting())
			for _, k := range blocks {
				if bytes.HasPrefix(plain[k.p.At*size:], k.b) {
					reads(t, "it lies there", d, k.p, k.b)
				} else {
					fails(t, "it does not lie there", d, k.p, api.ErrSum)
				}
			}
		}
	}
}
