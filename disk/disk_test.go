package disk_test

import (
	"bytes"
	"math"
	"slices"
	"strings"
	"testing"

	"shadowbox/api"
	"shadowbox/disk"
)

const size = 512 // bytes of a sector, as the document tells it

// made answers a disk of n sectors, which there must be.
func made(t *testing.T, n int) *disk.Disk {
	t.Helper()
	d, e := disk.New(n)
	if e != api.OK || d == nil {
		t.Fatalf("New(%d) = %v, %v", n, d, e)
	}
	return d
}

// full answers a text of n bytes, none of which is 0, that is another one for each seed from 0 to 250.
func full(n, seed int) []byte {
	b := make([]byte, n)
	for i := range b {
		b[i] = byte((i*7+seed)%251 + 1)
	}
	return b
}

// padded answers a sector that begins with b.
func padded(b []byte) []byte { return append(slices.Clone(b), make([]byte, size-len(b))...) }

func write(t *testing.T, d *disk.Disk, at int, b []byte) {
	t.Helper()
	if e := d.Write(at, b); e != api.OK {
		t.Fatalf("Write(%d, %d bytes) = %v", at, len(b), e)
	}
}

func flush(t *testing.T, d *disk.Disk) {
	t.Helper()
	if e := d.Flush(); e != api.OK {
		t.Fatalf("Flush = %v", e)
	}
}

func crash(t *testing.T, d *disk.Disk, keep ...int) *disk.Disk {
	t.Helper()
	found, e := d.Crash(keep)
	if e != api.OK || found == nil || found == d {
		t.Fatalf("Crash(%d) = %p, %v, of %p", keep, found, e, d)
	}
	return found
}

func read(t *testing.T, d *disk.Disk, at int) []byte {
	t.Helper()
	b, e := d.Read(at)
	if e != api.OK {
		t.Fatalf("Read(%d) = %v", at, e)
	}
	return b
}

// holds asks whether a sector is b, with zeros behind it.
func holds(t *testing.T, d *disk.Disk, at int, b []byte) {
	t.Helper()
	if got := read(t, d, at); !bytes.Equal(got, padded(b)) {
		t.Errorf("sector %d is %d bytes, %x .., want %x ..", at, len(got), got[:min(len(got), 8)], padded(b)[:8])
	}
}

func waits(t *testing.T, d *disk.Disk, n int) {
	t.Helper()
	if got := d.Waiting(); got != n {
		t.Errorf("%d sectors wait, want %d", got, n)
	}
}

// all tells all sectors, side by side.
func all(t *testing.T, d *disk.Disk) []byte {
	t.Helper()
	out := []byte{}
	for at := range d.Len() {
		out = append(out, read(t, d, at)...)
	}
	return out
}

func TestExample(t *testing.T) { // the chapter's example 1
	d := made(t, 10)
	write(t, d, 3, []byte("ab"))
	found := crash(t, d, 1)
	holds(t, found, 3, []byte("a"))
	holds(t, d, 3, []byte("ab"))
}

func TestNew(t *testing.T) { // P5.1
	for _, n := range []int{1, 2, 3, 100, api.MaxSectors - 1, api.MaxSectors} {
		d := made(t, n)
		if d.Len() != n {
			t.Errorf("New(%d) has %d sectors", n, d.Len())
		}
		waits(t, d, 0)
		if got := all(t, d); !bytes.Equal(got, make([]byte, n*size)) {
			t.Errorf("New(%d) is %d bytes, or they are not zeros", n, len(got))
		}
	}
}

func TestNewOfWrongNumbers(t *testing.T) { // P5.1
	for _, n := range []int{0, -1, -512, math.MinInt, math.MinInt + 1, api.MaxSectors + 1, 2 * api.MaxSectors, 1 << 32, 1<<32 + 1, 1<<62 + 1, math.MaxInt} {
		if d, e := disk.New(n); d != nil || e != api.ErrArg {
			t.Errorf("New(%d) = %p, %v, want nothing and ErrArg", n, d, e)
		}
	}
}

func TestNewOnesAreApart(t *testing.T) { // P5.1: what is done to one disk is not done to another
	one, other := made(t, 4), made(t, 4)
	write(t, one, 2, full(size, 1))
	holds(t, other, 2, nil)
	waits(t, other, 0)
	flush(t, one)
	one.Fuse(0)
	holds(t, other, 2, nil)
	write(t, other, 2, full(9, 2))
	holds(t, one, 2, full(size, 1))
	waits(t, one, 0)
}

func TestWriteOfLengths(t *testing.T) { // P5.2: the bytes, and zeros behind them, also over a longer text
	for n := range size + 1 {
		d := made(t, 3)
		write(t, d, 1, full(size, 7))
		write(t, d, 1, full(n, 8))
		holds(t, d, 1, full(n, 8))
		flush(t, d)
		holds(t, d, 1, full(n, 8))
		write(t, d, 1, full(size-n, 9))
		holds(t, d, 1, full(size-n, 9))
		flush(t, d)
		holds(t, d, 1, full(size-n, 9))
		holds(t, d, 0, nil)
		holds(t, d, 2, nil)
	}
}

func TestWriteOfNothing(t *testing.T) { // P5.2: nil and no bytes are zeros, and the sector waits
	for _, b := range [][]byte{nil, {}, full(5, 1)[:0]} {
		d := made(t, 2)
		write(t, d, 0, b)
		waits(t, d, 1)
		holds(t, d, 0, nil)
		write(t, d, 1, full(size, 3))
		flush(t, d)
		write(t, d, 1, b)
		waits(t, d, 1)
		holds(t, d, 1, nil)
		flush(t, d)
		holds(t, d, 1, nil)
	}
}

func TestWriteOfSectors(t *testing.T) { // P5.2: the first, the last and all between; none of them is another's
	for _, n := range []int{1, 2, 3, 250} {
		d := made(t, n)
		for i := range n {
			at := n - 1 - i
			write(t, d, at, full(size-at, at))
			waits(t, d, i+1)
		}
		for range 2 {
			for at := range n {
				holds(t, d, at, full(size-at, at))
			}
			flush(t, d)
			waits(t, d, 0)
		}
	}
	d := made(t, api.MaxSectors)
	write(t, d, api.MaxSectors-1, full(size, 1))
	write(t, d, 0, full(size, 2))
	want := slices.Concat(full(size, 2), make([]byte, (api.MaxSectors-2)*size), full(size, 1))
	if !bytes.Equal(all(t, d), want) {
		t.Error("Write of the first and the last sector of the greatest disk")
	}
}

func TestWriteTwice(t *testing.T) { // P5.2: one sector waits once, with what was written last
	d := made(t, 5)
	write(t, d, 2, full(40, 1))
	write(t, d, 2, full(30, 2))
	waits(t, d, 1)
	holds(t, d, 2, full(30, 2))
	holds(t, crash(t, d), 2, nil) // what lasted is what the last Flush left, not the first of both
	holds(t, crash(t, d, 10), 2, full(30, 2)[:10])
	flush(t, d)
	waits(t, d, 0)
	write(t, d, 2, full(20, 3))
	write(t, d, 2, full(10, 4))
	waits(t, d, 1)
	holds(t, crash(t, d), 2, full(30, 2))
	holds(t, crash(t, d, 5), 2, slices.Concat(full(10, 4)[:5], full(30, 2)[5:]))
	write(t, d, 2, full(30, 2)) // as it lasted
	waits(t, d, 1)
	holds(t, d, 2, full(30, 2))
}

func TestWrongSectors(t *testing.T) { // P5.2: ErrArg is told ahead of ErrBig and of ErrCut
	for _, n := range []int{1, 7, api.MaxSectors} {
		d := made(t, n)
		write(t, d, 0, full(size, 1))
		write(t, d, n-1, full(size, 2))
		waiting, was := d.Waiting(), all(t, d)
		for range 2 {
			for _, at := range []int{-1, -2, -n, math.MinInt, n, n + 1, 2 * n, api.MaxSectors, 1 << 32, 1 << 40, math.MaxInt} {
				if b, e := d.Read(at); len(b) != 0 || e != api.ErrArg {
					t.Errorf("of %d sectors, Read(%d) = %d bytes, %v, want none and ErrArg", n, at, len(b), e)
				}
				for _, b := range [][]byte{nil, full(1, 3), full(size, 3), full(size+1, 3), full(5*size, 3)} {
					if e := d.Write(at, b); e != api.ErrArg {
						t.Errorf("of %d sectors, Write(%d, %d bytes) = %v, want ErrArg", n, at, len(b), e)
					}
				}
			}
			waits(t, d, waiting)
			if !bytes.Equal(all(t, d), was) {
				t.Error("a Write of no sector changed one")
			}
			d.Fuse(0)
		}
	}
}

func TestWriteOfTooMuch(t *testing.T) { // P5.2: ErrBig is told ahead of ErrCut, and nothing is changed
	d := made(t, 3)
	write(t, d, 1, full(size, 1))
	flush(t, d)
	for range 2 {
		for _, n := range []int{size + 1, size + 2, 2 * size, api.MaxLength, 1 << 20} {
			for at := range 3 {
				if e := d.Write(at, full(n, 2)); e != api.ErrBig {
					t.Errorf("Write(%d, %d bytes) = %v, want ErrBig", at, n, e)
				}
			}
		}
		waits(t, d, 0)
		if !bytes.Equal(all(t, d), slices.Concat(make([]byte, size), full(size, 1), make([]byte, size))) {
			t.Error("a Write of too much changed a sector")
		}
		d.Fuse(0)
	}
}

func TestWriteKeepsNothing(t *testing.T) { // P5.2: what is handed in is neither changed nor kept, its spare room neither
	room := full(2*size, 1)
	was := slices.Clone(room)
	d := made(t, 3)
	write(t, d, 0, room[:10])
	write(t, d, 1, room[:size])
	write(t, d, 2, room[:0])
	if !bytes.Equal(room, was) {
		t.Error("Write changed what it was given")
	}
	clear(room)
	for range 2 {
		holds(t, d, 0, was[:10])
		holds(t, d, 1, was[:size])
		holds(t, d, 2, nil)
		flush(t, d)
	}
}

// spoil changes bytes that were handed out, and their spare room.
func spoil(b []byte) {
	b = b[:cap(b)]
	for i := range b {
		b[i] ^= 255
	}
}

func TestReadIsNewMemory(t *testing.T) { // P5.2: of sectors that wait, of those that last, and behind a crash
	d := made(t, 3)
	write(t, d, 0, full(size, 1))
	flush(t, d)
	write(t, d, 1, full(size, 2))
	want := [][]byte{full(size, 1), full(size, 2), nil}
	found := crash(t, d, size)
	for _, x := range []*disk.Disk{d, found} {
		for at := range want {
			first, second := read(t, x, at), read(t, x, at)
			spoil(first)
			if !bytes.Equal(second, padded(want[at])) {
				t.Errorf("two Reads of sector %d share memory", at)
			}
			holds(t, x, at, want[at])
		}
		for at := range want { // nor do those of one sector reach into another
			holds(t, x, at, want[at])
		}
	}
	flush(t, d)
	for at := range want {
		holds(t, d, at, want[at])
	}
}

func TestFlush(t *testing.T) { // P5.3
	d := made(t, 6)
	flush(t, d) // nothing waits
	waits(t, d, 0)
	for round := range 4 {
		write(t, d, round, full(100+round, round))
		write(t, d, 5, full(200+round, 10+round))
		waits(t, d, 2)
		flush(t, d)
		waits(t, d, 0)
		found := crash(t, d)
		for _, x := range []*disk.Disk{d, found} {
			for at := range round + 1 {
				holds(t, x, at, full(100+at, at))
			}
			for at := round + 1; at < 5; at++ {
				holds(t, x, at, nil)
			}
			holds(t, x, 5, full(200+round, 10+round))
		}
		flush(t, d)
		waits(t, d, 0)
	}
}

func TestFlushOfAll(t *testing.T) { // P5.3: as many as there can be
	d := made(t, api.MaxSectors)
	want := []byte{}
	for at := range api.MaxSectors {
		write(t, d, at, full(size, at%251))
		want = append(want, full(size, at%251)...)
	}
	waits(t, d, api.MaxSectors)
	flush(t, d)
	waits(t, d, 0)
	if !bytes.Equal(all(t, d), want) || !bytes.Equal(all(t, crash(t, d)), want) {
		t.Error("not all that waited lasts")
	}
}

// do does a row of writes (w) and flushes (f), and tells how many were done ahead of the first ErrCut; none may be done behind it.
func do(t *testing.T, d *disk.Disk, row string) int {
	t.Helper()
	done, cut := 0, false
	for i, c := range row {
		waiting, was := d.Waiting(), all(t, d)
		var e api.Errno
		if c == 'w' {
			e = d.Write(i%d.Len(), full(i%size, i))
		} else {
			e = d.Flush()
		}
		switch {
		case e == api.OK && !cut:
			done++
		case e == api.ErrCut:
			cut = true
			waits(t, d, waiting)
			if !bytes.Equal(all(t, d), was) {
				t.Errorf("%s: the operation %d told ErrCut, and changed a sector", row, i)
			}
		default:
			t.Errorf("%s: the operation %d told %v", row, i, e)
		}
	}
	return done
}

func TestFuse(t *testing.T) { // P5.4: just so many are done, whichever is the last that is, and the first that is not
	for _, row := range []string{"wwwwwwww", "ffffffff", "wfwfwfwf", "fwfwfwfw", "wwffwwff", "fwwffwwf"} {
		for _, n := range []int{math.MinInt, -1000, -1, 0, 1, 2, 3, 4, 5, 6, 7, 8, 9, 100, math.MaxInt} {
			d := made(t, 3)
			write(t, d, 0, full(size, 90))
			d.Fuse(n)
			if got, want := do(t, d, row), min(max(n, 0), len(row)); got != want {
				t.Errorf("Fuse(%d), %s: %d are done, want %d", n, row, got, want)
			}
		}
	}
}

func TestFuseIsNotThereAtFirst(t *testing.T) { // P5.4: ahead of Fuse there is no end
	d := made(t, 2)
	for i := range 20000 {
		write(t, d, i%2, full(3, i%251))
		flush(t, d)
	}
	d.Fuse(math.MaxInt)
	for i := range 20000 {
		write(t, d, i%2, full(3, i%251))
		flush(t, d)
	}
}

func TestFuseAtAWrite(t *testing.T) { // P5.4: what is seen on both sides of the end
	d := made(t, 4)
	write(t, d, 0, full(30, 1))
	flush(t, d)
	d.Fuse(1)
	write(t, d, 1, full(20, 2)) // the last that is done
	for _, at := range []int{0, 1, 2, 3} {
		if e := d.Write(at, full(size, 3)); e != api.ErrCut {
			t.Errorf("Write(%d) without power = %v", at, e)
		}
	}
	if e := d.Flush(); e != api.ErrCut {
		t.Errorf("Flush without power = %v", e)
	}
	waits(t, d, 1)
	if d.Len() != 4 {
		t.Errorf("without power there are %d sectors", d.Len())
	}
	for at, b := range [][]byte{full(30, 1), full(20, 2), nil, nil} { // Read needs no power
		holds(t, d, at, b)
	}
}

func TestFuseAtAFlush(t *testing.T) { // P5.4
	d := made(t, 4)
	d.Fuse(2)
	write(t, d, 1, full(20, 2))
	flush(t, d) // the last that is done
	if e := d.Flush(); e != api.ErrCut {
		t.Errorf("Flush without power = %v", e)
	}
	if e := d.Write(1, full(size, 3)); e != api.ErrCut {
		t.Errorf("Write without power = %v", e)
	}
	waits(t, d, 0)
	holds(t, crash(t, d, 0), 1, full(20, 2))

	d = made(t, 4)
	write(t, d, 1, full(20, 2))
	d.Fuse(0)
	if e := d.Flush(); e != api.ErrCut { // the first that is not done
		t.Errorf("Flush without power = %v", e)
	}
	waits(t, d, 1)
	holds(t, crash(t, d, 0), 1, nil)
}

func TestFuseAgain(t *testing.T) { // P5.4: while power is left, the last one counts
	for _, c := range []struct{ first, done, second, want int }{
		{5, 0, 2, 2}, {2, 0, 5, 5}, {5, 4, 3, 3}, {5, 4, 0, 0}, {5, 4, -3, 0}, {5, 2, 5, 5},
		{1, 0, 1, 1}, {1, 0, 2, 2}, {math.MaxInt, 3, 1, 1}, {3, 2, math.MaxInt, 8}, {3, 2, math.MinInt, 0},
	} {
		d := made(t, 3)
		d.Fuse(c.first)
		if got := do(t, d, strings.Repeat("w", c.done)); got != c.done {
			t.Errorf("%+v: %d are done of those ahead", c, got)
		}
		d.Fuse(c.second)
		if got := do(t, d, "wfwfwfwf"); got != c.want {
			t.Errorf("%+v: %d are done", c, got)
		}
	}
}

func TestFuseBehindItsEnd(t *testing.T) { // P5.4: the power that is gone stays so, whether a call told it already or not
	for _, n := range []int{math.MinInt, -1, 0, 1, 2, 5} {
		for _, told := range []bool{false, true} {
			d := made(t, 3)
			d.Fuse(n)
			if got, want := do(t, d, strings.Repeat("w", max(n, 0))), max(n, 0); got != want {
				t.Errorf("Fuse(%d): %d are done", n, got)
			}
			for _, again := range []int{1, 100, math.MaxInt, 0, -1, math.MinInt, 1} {
				if told {
					do(t, d, "f")
				}
				d.Fuse(again)
				if got := do(t, d, "wfw"); got != 0 {
					t.Errorf("Fuse(%d), all done, Fuse(%d): %d more are done", n, again, got)
				}
			}
		}
	}
}

func TestFuseCountsNoOthers(t *testing.T) { // P5.4: calls that tell ErrArg, ErrBig or ErrNil, and those that are no Write or Flush
	d := made(t, 3)
	d.Fuse(2)
	for range 2 {
		for range 5 {
			var none *disk.Disk
			for i, e := range []api.Errno{d.Write(-1, nil), d.Write(3, full(size+1, 1)), d.Write(0, full(size+1, 1)), none.Write(0, nil), none.Flush(), new(disk.Disk).Write(0, nil), new(disk.Disk).Flush()} {
				if want := []api.Errno{api.ErrArg, api.ErrArg, api.ErrBig, api.ErrNil, api.ErrNil, api.ErrNil, api.ErrNil}[i]; e != want {
					t.Errorf("the wrong call %d told %v, want %v", i, e, want)
				}
			}
			d.Read(-1)
			all(t, d)
			d.Len()
			d.Waiting()
			crash(t, d, 1, 2, 3)
		}
		write(t, d, 0, full(3, 2))
	}
	if e := d.Write(0, nil); e != api.ErrCut {
		t.Errorf("the third Write behind Fuse(2) told %v", e)
	}
	if d.Write(3, nil) != api.ErrArg || d.Write(0, full(size+1, 1)) != api.ErrBig {
		t.Error("without power a wrong call tells another error")
	}
	holds(t, d, 0, full(3, 2))
}

func TestCrashKeeps(t *testing.T) { // P5.5: of one sector that waits its first k bytes, the others of what lasted
	numbers := []int{math.MinInt, math.MinInt + 1, -513, -512, -1, size + 1, 2 * size, 1 << 32, 1<<32 + 7, math.MaxInt}
	for k := range size + 1 {
		numbers = append(numbers, k)
	}
	for _, k := range numbers {
		kept := min(max(k, 0), size)
		d := made(t, 4)
		write(t, d, 1, full(size, 1))
		write(t, d, 2, full(size, 2))
		flush(t, d)
		write(t, d, 2, full(size, 3))
		found := crash(t, d, k)
		holds(t, found, 0, nil)
		holds(t, found, 1, full(size, 1))
		holds(t, found, 2, slices.Concat(full(size, 3)[:kept], full(size, 2)[kept:]))
		holds(t, found, 3, nil)

		write(t, d, 2, full(100, 4)) // the zeros behind the bytes wait as well
		holds(t, crash(t, d, k), 2, slices.Concat(padded(full(100, 4))[:kept], full(size, 2)[kept:]))
	}
}

func TestCrashOrder(t *testing.T) { // P5.5: the numbers go to the sectors that wait, by rising numbers, whichever was written first
	keep := []int{3, 0, size, 7, 511, -2, 20, 9999}
	for _, order := range [][]int{{0, 1, 3, 4, 8, 9}, {9, 8, 4, 3, 1, 0}, {4, 9, 0, 8, 1, 3}, {8, 3, 8, 1, 9, 0, 4, 9, 8}} {
		for n := range len(keep) + 1 { // fewer numbers than wait, as many, and more
			d := made(t, 10)
			for at := range 10 {
				write(t, d, at, full(size, at))
			}
			flush(t, d)
			for _, at := range order {
				write(t, d, at, full(size, 100+at))
			}
			waits(t, d, 6)
			found := crash(t, d, keep[:n]...)
			for i, at := range []int{0, 1, 3, 4, 8, 9} {
				k := 0
				if i < n {
					k = min(max(keep[i], 0), size)
				}
				holds(t, found, at, slices.Concat(full(size, 100+at)[:k], full(size, at)[k:]))
			}
			for _, at := range []int{2, 5, 6, 7} {
				holds(t, found, at, full(size, at))
			}
		}
	}
}

func TestCrashOfMany(t *testing.T) { // P5.5: and alike each time
	const n = 1000
	d, keep, want := made(t, n), make([]int, n), []byte{}
	for i := range n {
		write(t, d, i*7%n, full(size, i*7%n%251))
		keep[i] = i % (size + 1)
	}
	for at := range n {
		want = append(want, padded(full(size, at%251)[:keep[at]])...)
	}
	was := slices.Clone(keep)
	for range 5 {
		if !bytes.Equal(all(t, crash(t, d, keep...)), want) {
			t.Error("Crash of many sectors that wait")
		}
	}
	if !slices.Equal(keep, was) {
		t.Error("Crash changed the numbers")
	}
}

func TestCrashReadsItsNumbersAlone(t *testing.T) { // P5.5: what lies behind the list's length is not read
	d := made(t, 2)
	write(t, d, 0, full(size, 1))
	write(t, d, 1, full(size, 2))
	for _, keep := range [][]int{nil, {}, []int{size, size}[:0]} {
		found := crash(t, d, keep...)
		holds(t, found, 0, nil)
		holds(t, found, 1, nil)
	}
	found := crash(t, d, []int{size, size}[:1]...)
	holds(t, found, 0, full(size, 1))
	holds(t, found, 1, nil)
}

func TestCrashIsADiskOfItsOwn(t *testing.T) { // P5.5: as many sectors, none waiting, and apart from the first one
	d := made(t, 5)
	for at := range 5 {
		write(t, d, at, full(size, at))
	}
	flush(t, d)
	write(t, d, 4, full(10, 50))
	write(t, d, 1, full(10, 51))
	found := crash(t, d, size, 3)
	if found.Len() != 5 {
		t.Errorf("behind the crash there are %d sectors", found.Len())
	}
	waits(t, found, 0)
	was, first := all(t, found), all(t, d)
	waits(t, d, 2)
	holds(t, d, 4, full(10, 50))
	holds(t, d, 1, full(10, 51))

	for at := range 5 { // what is done to the first one
		write(t, d, at, full(size, 60+at))
	}
	if !bytes.Equal(all(t, found), was) {
		t.Error("a Write of the first disk changed the other one")
	}
	waits(t, found, 0)
	flush(t, d)
	d.Fuse(0)
	if !bytes.Equal(all(t, found), was) {
		t.Error("a Flush of the first disk changed the other one")
	}
	for at := range 5 { // and to the other one
		write(t, found, at, full(size, 70+at))
	}
	flush(t, found)
	for at := range 5 {
		holds(t, d, at, full(size, 60+at))
	}
	if bytes.Equal(first, all(t, d)) {
		t.Error("the first disk was not written on")
	}
}

func TestCrashLeavesTheFirst(t *testing.T) { // P5.5: what waits, what lasted, and the fuse
	d := made(t, 3)
	write(t, d, 1, full(size, 1))
	flush(t, d)
	d.Fuse(3)
	write(t, d, 1, full(20, 2))
	for range 3 {
		found := crash(t, d, 5)
		holds(t, found, 1, slices.Concat(full(20, 2)[:5], full(size, 1)[5:]))
		write(t, found, 1, full(size, 3))
		flush(t, found)
		found.Fuse(0)
		waits(t, d, 1)
		holds(t, d, 1, full(20, 2))
	}
	holds(t, crash(t, d), 1, full(size, 1))
	if got := do(t, d, "wfwf"); got != 2 {
		t.Errorf("behind the crashes %d are done, want 2", got)
	}
}

func TestCrashWithoutPower(t *testing.T) { // P5.5: the other disk has power, and no fuse; the first has none still
	for _, n := range []int{-1, 0, 1, 2} {
		d := made(t, 3)
		write(t, d, 0, full(size, 1))
		flush(t, d)
		write(t, d, 0, full(size, 2))
		d.Fuse(n)
		if n > 0 {
			do(t, d, "www"[:n])
		}
		waiting, was := d.Waiting(), all(t, d)
		found := crash(t, d, size, size, size)
		if !bytes.Equal(all(t, found), was) {
			t.Errorf("Fuse(%d): the crash didn't keep what waits", n)
		}
		waits(t, found, 0)
		row := strings.Repeat("wf", 50)
		if got := do(t, found, row); got != len(row) {
			t.Errorf("Fuse(%d): behind the crash %d are done", n, got)
		}
		found.Fuse(1) // it can have a fuse of its own
		if got := do(t, found, "wfw"); got != 1 {
			t.Errorf("Fuse(%d): behind the crash, Fuse(1), %d are done", n, got)
		}
		if got := do(t, d, "wf"); got != 0 {
			t.Errorf("Fuse(%d): the first disk did %d behind the crash", n, got)
		}
		waits(t, d, waiting)
		if !bytes.Equal(all(t, d), was) {
			t.Errorf("Fuse(%d): the first disk is another one behind the crash", n)
		}
	}
}

func TestCrashOfACrash(t *testing.T) { // P5.5
	d := made(t, 2)
	write(t, d, 0, full(size, 1))
	d = crash(t, d, 100)
	holds(t, crash(t, d, 0), 0, full(size, 1)[:100]) // what was kept lasts
	write(t, d, 0, full(size, 2))
	d = crash(t, d, 50)
	holds(t, d, 0, slices.Concat(full(size, 2)[:50], full(size, 1)[50:100]))
	write(t, d, 1, full(5, 3))
	d.Fuse(0)
	d = crash(t, crash(t, d, 5), 0)
	holds(t, d, 0, slices.Concat(full(size, 2)[:50], full(size, 1)[50:100]))
	holds(t, d, 1, full(5, 3))
}

func TestNone(t *testing.T) { // P5.1 to P5.5: of nil, and of a plain Disk{}, nothing is done, whatever else is wrong
	for _, d := range []*disk.Disk{nil, {}, new(disk.Disk)} {
		for range 2 {
			if d.Len() != 0 || d.Waiting() != 0 {
				t.Errorf("Len = %d, Waiting = %d, want 0", d.Len(), d.Waiting())
			}
			for _, at := range []int{0, 1, -1, api.MaxSectors, math.MinInt, math.MaxInt} {
				if b, e := d.Read(at); len(b) != 0 || e != api.ErrNil {
					t.Errorf("Read(%d) = %d bytes, %v, want none and ErrNil", at, len(b), e)
				}
				for _, n := range []int{0, 1, size, size + 1} {
					if e := d.Write(at, full(n, 1)); e != api.ErrNil {
						t.Errorf("Write(%d, %d bytes) = %v, want ErrNil", at, n, e)
					}
				}
			}
			if e := d.Flush(); e != api.ErrNil {
				t.Errorf("Flush = %v, want ErrNil", e)
			}
			for _, keep := range [][]int{nil, {}, {1}, {-1, size, math.MaxInt}} {
				if found, e := d.Crash(keep); found != nil || e != api.ErrNil {
					t.Errorf("Crash(%d) = %p, %v, want nothing and ErrNil", keep, found, e)
				}
			}
			for _, n := range []int{0, 1, -1, math.MinInt, math.MaxInt} {
				d.Fuse(n)
			}
		}
	}
}

func TestFlushOutlivesCrashes(t *testing.T) { // P5.6: whatever the numbers are, and however often
	d := made(t, 8)
	for at := range 7 {
		write(t, d, at, full(size-at, at))
		write(t, d, at, full(size-at, 20+at))
	}
	flush(t, d)
	was := all(t, d)
	for _, keep := range [][]int{nil, {}, {0}, {size}, {1, 2, 3, 4, 5, 6, 7, 8, 9}, {-1, math.MaxInt, math.MinInt}, slices.Repeat([]int{256}, 20)} {
		found := crash(t, d, keep...)
		for range 3 {
			if !bytes.Equal(all(t, found), was) {
				t.Fatalf("a crash with %d changed what lasts", keep)
			}
			found = crash(t, found, keep...)
		}
		write(t, d, 7, full(size, 99)) // one waits: no other sector is changed
		if found := all(t, crash(t, d, keep...)); !bytes.Equal(found[:7*size], was[:7*size]) {
			t.Errorf("a crash with %d changed a sector that doesn't wait", keep)
		}
		write(t, d, 7, nil)
		flush(t, d)
	}
}

// plain is a disk as the chapter's words tell it, in lists.
type plain struct {
	lasts, last [][]byte // what lasted, and what was written last
	waiting     []bool
	left        int // below 0: there is no end
}

func plainOf(n int) *plain {
	p := &plain{left: -1}
	for range n {
		p.lasts, p.last, p.waiting = append(p.lasts, make([]byte, size)), append(p.last, make([]byte, size)), append(p.waiting, false)
	}
	return p
}

func (p *plain) step() api.Errno {
	if p.left == 0 {
		return api.ErrCut
	}
	p.left = max(p.left-1, -1)
	return api.OK
}

func (p *plain) write(at int, b []byte) api.Errno {
	if at < 0 || at >= len(p.last) {
		return api.ErrArg
	}
	if len(b) > size {
		return api.ErrBig
	}
	e := p.step()
	if e == api.OK {
		p.last[at], p.waiting[at] = padded(b), true
	}
	return e
}

func (p *plain) flush() api.Errno {
	e := p.step()
	if e == api.OK {
		copy(p.lasts, p.last)
		clear(p.waiting)
	}
	return e
}

func (p *plain) fuse(n int) {
	if p.left != 0 {
		p.left = max(n, 0)
	}
}

func (p *plain) crash(keep []int) *plain {
	found := plainOf(len(p.last))
	for at := range p.last {
		k := 0
		if p.waiting[at] && len(keep) > 0 {
			k, keep = min(max(keep[0], 0), size), keep[1:]
		}
		found.lasts[at] = slices.Concat(p.last[at][:k], p.lasts[at][k:])
	}
	copy(found.last, found.lasts)
	return found
}

// same asks whether a disk is as the lists tell it.
func same(t *testing.T, d *disk.Disk, p *plain) {
	t.Helper()
	n := 0
	for _, w := range p.waiting {
		if w {
			n++
		}
	}
	waits(t, d, n)
	if d.Len() != len(p.last) || !bytes.Equal(all(t, d), slices.Concat(p.last...)) {
		t.Fatal("the disk's sectors are not those of the lists")
	}
}

func TestAgainstLists(t *testing.T) { // P5.1 to P5.6: long rows of calls in no plain order, the same ones each time
	x := uint32(5)
	chance := func(n int) int {
		x = x*1664525 + 1013904223
		return int(x>>8) % n
	}
	numbers := func() []int {
		keep := make([]int, chance(8))
		for i := range keep {
			keep[i] = chance(size+200) - 100
		}
		return keep
	}
	for range 300 {
		n := 1 + chance(6)
		d, p := made(t, n), plainOf(n)
		for range 60 {
			switch c := chance(20); {
			case c < 12:
				at, b := chance(n+2)-1, full(chance(size+20), chance(251))
				if got, want := d.Write(at, b), p.write(at, b); got != want {
					t.Fatalf("Write(%d, %d bytes) = %v, want %v", at, len(b), got, want)
				}
			case c < 15:
				if got, want := d.Flush(), p.flush(); got != want {
					t.Fatalf("Flush = %v, want %v", got, want)
				}
			case c < 16:
				k := chance(20) - 1
				d.Fuse(k)
				p.fuse(k)
			case c < 18:
				keep := numbers()
				same(t, crash(t, d, keep...), p.crash(keep))
			case c < 19:
				keep := numbers()
				d, p = crash(t, d, keep...), p.crash(keep)
			}
			same(t, d, p)
		}
	}
}
