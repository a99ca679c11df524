package label_test

import (
	"bytes"
	"encoding/binary"
	"hash/crc32"
	"math"
	"slices"
	"testing"

	"shadowbox/api"
	"shadowbox/label"
	"shadowbox/pointer"
)

// The limits and the places, as the document tells them.
const (
	size    = 512 // bytes of a sector
	sectors = 8192
	most    = 65536
	last    = 1 << 60 // the greatest Epoch, Next and Birth

	nextAt  = 12
	rootAt  = 20
	zerosAt = 72
	sumAt   = 500
	againAt = 504
)

// rising answers a sum whose bytes are all others, so that none can take another's place.
func rising(first byte) (sha [32]byte) {
	for i := range sha {
		sha[i] = first + byte(i)
	}
	return sha
}

// root answers a pointer that is right where the numbers are.
func root(at, birth, length int) api.Pointer {
	return api.Pointer{At: at, Birth: birth, Length: length, Crc: 0x81828384, Sha: rising(byte(at + 1))}
}

// rootBytes answers the bytes of a pointer's fields, as chapter 6 tells them.
func rootBytes(at, length uint32, birth uint64, crc uint32, sha [32]byte) []byte {
	b := binary.LittleEndian.AppendUint32(nil, at)
	b = binary.LittleEndian.AppendUint32(b, length)
	b = binary.LittleEndian.AppendUint64(b, birth)
	b = binary.LittleEndian.AppendUint32(b, crc)
	return append(b, sha[:]...)
}

// summed lays the sum of what is ahead of it into b, by a sum that is not the program's.
func summed(b []byte) []byte {
	binary.LittleEndian.PutUint32(b[sumAt:], crc32.Checksum(b[:sumAt], crc32.MakeTable(crc32.Castagnoli)))
	return b
}

// raw answers the bytes of a label's parts, as P8.1 tells them.
func raw(epoch uint64, letters string, next uint64, root []byte, again uint64) []byte {
	b := make([]byte, size)
	binary.LittleEndian.PutUint64(b, epoch)
	copy(b[8:nextAt], letters)
	binary.LittleEndian.PutUint64(b[nextAt:], next)
	copy(b[rootAt:zerosAt], root)
	binary.LittleEndian.PutUint64(b[againAt:], again)
	return summed(b)
}

// sealed answers a label's bytes without the calls of the package.
func sealed(l label.Label) []byte {
	r := l.Root
	b := rootBytes(uint32(r.At), uint32(r.Length), uint64(r.Birth), r.Crc, r.Sha)
	return raw(uint64(l.Epoch), "SBX1", uint64(l.Next), b, uint64(l.Epoch))
}

// numbers answers those at which Epoch and Next may change from right to not, and those at the ends of int.
func numbers() []int {
	return []int{math.MinInt, math.MinInt + 1, -last, -2, -1, 0, 1, 2, 3, 255, 256, 1 << 32, 0x0102030405060708,
		last - 1, last, last + 1, 1 << 61, math.MaxInt - 1, math.MaxInt}
}

// isNumber tells whether an Epoch, or a Next, may be.
func isNumber(n int) bool { return n > 0 && n < last+1 }

// roots answers pointers that are none, that are right for births up to an epoch, and that are neither.
func roots(epoch int) (fit, unfit []api.Pointer) {
	fit = []api.Pointer{{}, root(2, 1, 1), root(sectors-128, 1, most), root(7, epoch, 513), root(sectors-1, epoch, size)}
	if epoch > 1 {
		fit = append(fit, root(9, epoch-1, 5), root(9, (epoch+1)/2, 5))
	}
	for _, p := range []api.Pointer{{At: 7}, {Birth: 1}, {Length: 1}, {Crc: 1}, {Crc: math.MaxUint32}, {Sha: rising(0)}, {Sha: [32]byte{31: 1}}} {
		unfit = append(unfit, p) // all 0 but for one field: neither none nor right
	}
	unfit = append(unfit, api.Pointer{Crc: 5, Sha: rising(1)})
	for _, at := range []int{math.MinInt, -7, 0, 1, sectors - 1, sectors, 1<<32 + 7, math.MaxInt} {
		unfit = append(unfit, root(at, 1, 513))
	}
	for _, length := range []int{math.MinInt, -1, 0, most + 1, 1<<32 + 1, math.MaxInt} {
		unfit = append(unfit, root(7, 1, length))
	}
	for _, birth := range []int{math.MinInt, -1, 0, last + 1, math.MaxInt, epoch + 1} {
		unfit = append(unfit, root(7, birth, 513))
	}
	if epoch < last {
		unfit = append(unfit, root(7, last, 513))
	}
	return fit, unfit
}

// rights answers labels that are right.
func rights() (l []label.Label) {
	for _, epoch := range numbers() {
		for _, next := range numbers() {
			if !isNumber(epoch) || !isNumber(next) {
				continue
			}
			fit, _ := roots(epoch)
			for _, p := range fit {
				l = append(l, label.Label{Epoch: epoch, Root: p, Next: next})
			}
		}
	}
	return l
}

// roomy answers b with spare room behind it, and a look at whether all of both is as it was.
func roomy(b []byte) (out []byte, untouched func() bool) {
	all := slices.Concat(b, bytes.Repeat([]byte{0xee}, size))
	want := slices.Clone(all)
	return all[:len(b)], func() bool { return bytes.Equal(all, want) }
}

// seals asks what Seal tells.
func seals(t *testing.T, l label.Label, want []byte, sector int, e api.Errno) {
	t.Helper()
	if b, s, got := label.Seal(l); !bytes.Equal(b, want) || s != sector || got != e {
		t.Errorf("Seal(%+v) = %x, %d, %d, want %x, %d, %d", l, b, s, int(got), want, sector, int(e))
	}
}

// opens asks what Open tells, and whether it leaves the bytes as they are.
func opens(t *testing.T, what string, b []byte, want label.Label, e api.Errno) {
	t.Helper()
	in, untouched := roomy(b)
	if got, gotE := label.Open(in); got != want || gotE != e {
		t.Errorf("%s: Open of %d bytes = %+v, %d, want %+v, %d", what, len(b), got, int(gotE), want, int(e))
	}
	if !untouched() {
		t.Errorf("%s: Open changed what was handed in", what)
	}
}

func TestExample(t *testing.T) { // the chapter's example 1
	if b, s, e := label.Seal(label.Label{Epoch: 2, Next: 1}); len(b) != size || s != 0 || e != api.OK {
		t.Errorf("Seal of {2, none, 1} = %d bytes, the sector %d, %d", len(b), s, int(e))
	}
}

func TestSealNumbers(t *testing.T) { // P8.1: Epoch and Next, each with all the others
	for _, epoch := range numbers() {
		for _, next := range numbers() {
			for _, p := range []api.Pointer{{}, root(7, 1, 513)} {
				l := label.Label{Epoch: epoch, Root: p, Next: next}
				if isNumber(epoch) && isNumber(next) {
					seals(t, l, sealed(l), epoch&1, api.OK)
				} else {
					seals(t, l, nil, 0, api.ErrArg)
				}
			}
		}
	}
	seals(t, label.Label{}, nil, 0, api.ErrArg)
}

func TestSealRoots(t *testing.T) { // P8.1: none, right, neither, born in the epoch, and one later
	for _, epoch := range numbers() {
		if !isNumber(epoch) {
			continue
		}
		fit, unfit := roots(epoch)
		for _, p := range fit {
			l := label.Label{Epoch: epoch, Root: p, Next: 5}
			seals(t, l, sealed(l), epoch&1, api.OK)
		}
		for _, p := range unfit {
			seals(t, label.Label{Epoch: epoch, Root: p, Next: 5}, nil, 0, api.ErrArg)
		}
	}
}

func TestSealSums(t *testing.T) { // P8.1: the Root's sums are not asked, whatever they are
	for _, crc := range []uint32{0, 1, math.MaxUint32} {
		for _, sha := range [][32]byte{{}, rising(0), rising(200)} {
			l := label.Label{Epoch: 3, Root: api.Pointer{At: 2, Birth: 3, Length: 1, Crc: crc, Sha: sha}, Next: 4}
			seals(t, l, sealed(l), 1, api.OK)
		}
	}
}

func TestSealBytes(t *testing.T) { // P8.1: the bytes one by one
	l := label.Label{Epoch: 0x0102030405060708, Root: root(0x0a0b, 0x0008070605040302, 0x4d4e), Next: 0x0e0f101112131415}
	l.Root.Sha = rising(0xa0)
	l.Root.At = 0x1a0b
	b, s, e := label.Seal(l)
	if len(b) != size || s != 0 || e != api.OK {
		t.Fatalf("Seal = %d bytes, %d, %d", len(b), s, int(e))
	}
	for _, c := range []struct {
		what     string
		from, to int
		want     string
	}{
		{"Epoch", 0, 8, "\x08\x07\x06\x05\x04\x03\x02\x01"},
		{"letters", 8, 12, "SBX1"},
		{"Next", 12, 20, "\x15\x14\x13\x12\x11\x10\x0f\x0e"},
		{"the Root's At", 20, 24, "\x0b\x1a\x00\x00"},
		{"the Root's Length", 24, 28, "\x4e\x4d\x00\x00"},
		{"the Root's Birth", 28, 36, "\x02\x03\x04\x05\x06\x07\x08\x00"},
		{"the Root's Crc", 36, 40, "\x84\x83\x82\x81"},
		{"the Root's Sha", 40, 72, string(l.Root.Sha[:])},
		{"zeros", 72, 500, string(make([]byte, 428))},
		{"the sum", 500, 504, string(summed(slices.Clone(b))[500:504])},
		{"Epoch again", 504, 512, "\x08\x07\x06\x05\x04\x03\x02\x01"},
	} {
		if got := string(b[c.from:c.to]); got != c.want {
			t.Errorf("%s: the bytes from %d on are %x, want %x", c.what, c.from, got, c.want)
		}
	}
	if got := b[rootAt:zerosAt]; !bytes.Equal(got, pointer.Put(nil, l.Root)) {
		t.Errorf("the Root is %x", got)
	}
}

func TestSealKnownBytes(t *testing.T) { // P8.1: a label's bytes that were written out
	want := slices.Concat([]byte("\x02\x00\x00\x00\x00\x00\x00\x00SBX1\x01\x00\x00\x00\x00\x00\x00\x00"), make([]byte, 480),
		[]byte("\x28\xee\x86\xd6"), []byte("\x02\x00\x00\x00\x00\x00\x00\x00"))
	seals(t, label.Label{Epoch: 2, Next: 1}, want, 0, api.OK)
	opens(t, "written out", want, label.Label{Epoch: 2, Next: 1}, api.OK)
}

func TestSealSector(t *testing.T) { // P8.1: Epoch modulo 2, whatever the rest is
	for _, epoch := range []int{1, 3, 5, 255, 257, 1<<32 + 1, last - 1} {
		for _, l := range []label.Label{{Epoch: epoch, Next: 1}, {Epoch: epoch, Next: 2, Root: root(8, 1, 2)}, {Epoch: epoch + 1, Next: 1}, {Epoch: epoch + 1, Next: 2, Root: root(9, 1, 1)}} {
			want := 1
			if l.Epoch == epoch+1 {
				want = 0
			}
			if _, s, e := label.Seal(l); s != want || e != api.OK {
				t.Errorf("Seal of the epoch %d = the sector %d, %d, want %d", l.Epoch, s, int(e), want)
			}
		}
	}
}

func TestSealMemory(t *testing.T) { // P8.1: what is told is memory of its own
	l := label.Label{Epoch: 7, Root: root(7, 7, 513), Next: 9}
	kept := l
	one, _, _ := label.Seal(l)
	other, _, _ := label.Seal(l)
	whole := one[:cap(one)]
	for i := range whole {
		whole[i] ^= 0x55
	}
	seals(t, l, sealed(kept), 1, api.OK)
	if l != kept || !bytes.Equal(other, sealed(kept)) {
		t.Error("Seal answers memory that another answer has, or changed the label")
	}
}

func TestOpenOfFewBytes(t *testing.T) { // P8.2: whatever they are; what lies behind the length is not read
	b := sealed(label.Label{Epoch: 4, Root: root(7, 4, 513), Next: 9})
	for _, all := range [][]byte{b, make([]byte, size), bytes.Repeat([]byte{0xff}, size)} {
		for n := range size {
			if got, e := label.Open(all[:n]); got != (label.Label{}) || e != api.ErrEnd {
				t.Fatalf("Open of %d bytes = %+v, %d, want ErrEnd", n, got, int(e))
			}
		}
	}
	opens(t, "nil", nil, label.Label{}, api.ErrEnd)
	opens(t, "one byte less", b[:size-1], label.Label{}, api.ErrEnd)
	if got, e := label.Open(nil); got != (label.Label{}) || e != api.ErrEnd {
		t.Errorf("Open(nil) = %+v, %d, want ErrEnd", got, int(e))
	}
}

func TestOpen(t *testing.T) { // P8.2, P8.4: what is sealed is opened as it was, whatever stands behind it
	other := sealed(label.Label{Epoch: 9, Next: 9})
	for _, l := range rights() {
		b, _, e := label.Seal(l)
		if e != api.OK || !bytes.Equal(b, sealed(l)) {
			t.Fatalf("Seal(%+v) = %x, %d", l, b, int(e))
		}
		for _, behind := range [][]byte{nil, {0}, {0xff}, other, bytes.Repeat([]byte{0xff}, 3*size)} {
			opens(t, "sealed", slices.Concat(b, behind), l, api.OK)
		}
	}
}

func TestOpenMemory(t *testing.T) { // P8.2: a label is no part of the bytes that it was read from
	l := label.Label{Epoch: 4, Root: root(7, 4, 513), Next: 9}
	b := sealed(l)
	got, _ := label.Open(b)
	clear(b)
	if got != l {
		t.Errorf("with the bytes the label became %+v", got)
	}
}

func TestOpenOfOtherSums(t *testing.T) { // P8.2: also where the rest has no form
	b := sealed(label.Label{Epoch: 4, Root: root(7, 4, 513), Next: 9})
	formless := [][]byte{
		b,
		raw(4, "SBX2", 9, b[rootAt:zerosAt], 4),
		raw(4, "SBX1", 9, b[rootAt:zerosAt], 5),
		raw(0, "SBX1", 9, b[rootAt:zerosAt], 0),
		raw(4, "SBX1", 0, b[rootAt:zerosAt], 4),
		raw(4, "SBX1", 9, rootBytes(1, 513, 4, 5, rising(1)), 4),
		raw(0, "", 0, nil, 0),
		summed(bytes.Repeat([]byte{0xff}, size)),
	}
	for i, f := range formless {
		for bit := range 32 {
			wrong := slices.Clone(f)
			wrong[sumAt+bit/8] ^= 1 << (bit % 8)
			opens(t, "a turned sum", wrong, label.Label{}, api.ErrSum)
		}
		for _, sum := range []uint32{0, 1, math.MaxUint32} {
			wrong := slices.Clone(f)
			binary.LittleEndian.PutUint32(wrong[sumAt:], sum)
			if !bytes.Equal(wrong, f) {
				opens(t, "another sum", wrong, label.Label{}, api.ErrSum)
			}
		}
		wrong := slices.Clone(f) // the highest byte first
		slices.Reverse(wrong[sumAt:againAt])
		opens(t, "a sum the other way round", wrong, label.Label{}, api.ErrSum)
		want := api.ErrForm
		if i == 0 {
			want = api.OK
		}
		if _, got := label.Open(f); got != want {
			t.Errorf("%d: Open with the right sum = %d, want %d", i, int(got), int(want))
		}
	}
	opens(t, "zeros", make([]byte, size), label.Label{}, api.ErrSum)
	opens(t, "ones", bytes.Repeat([]byte{0xff}, size), label.Label{}, api.ErrSum)
}

func TestOpenOfWrongParts(t *testing.T) { // P8.2: the sum is right
	none := make([]byte, 52)
	some := rootBytes(7, 513, 4, 5, rising(1))
	for what, b := range map[string][]byte{
		"small letters":         raw(4, "sbx1", 9, some, 4),
		"another version":       raw(4, "SBX2", 9, some, 4),
		"letters turned round":  raw(4, "1XBS", 9, some, 4),
		"no letters":            raw(4, "", 9, some, 4),
		"another first letter":  raw(4, "TBX1", 9, some, 4),
		"another Epoch behind":  raw(4, "SBX1", 9, some, 6),
		"another Epoch ahead":   raw(6, "SBX1", 9, some, 4),
		"no Epoch behind":       raw(4, "SBX1", 9, some, 0),
		"no Epoch ahead":        raw(0, "SBX1", 9, none, 4),
		"Epoch 0":               raw(0, "SBX1", 9, none, 0),
		"Epoch 2^60 + 1":        raw(last+1, "SBX1", 9, none, last+1),
		"Epoch greatest int":    raw(math.MaxInt, "SBX1", 9, none, math.MaxInt),
		"Epoch 2^63":            raw(1<<63, "SBX1", 9, none, 1<<63),
		"Epoch 2^63 + 4":        raw(1<<63+4, "SBX1", 9, none, 1<<63+4),
		"Epoch 2^64 - 1":        raw(math.MaxUint64, "SBX1", 9, none, math.MaxUint64),
		"Next 0":                raw(4, "SBX1", 0, some, 4),
		"Next 2^60 + 1":         raw(4, "SBX1", last+1, some, 4),
		"Next greatest int":     raw(4, "SBX1", math.MaxInt, some, 4),
		"Next 2^63":             raw(4, "SBX1", 1<<63, some, 4),
		"Next 2^63 + 9":         raw(4, "SBX1", 1<<63+9, some, 4),
		"Next 2^64 - 1":         raw(4, "SBX1", math.MaxUint64, some, 4),
		"Root born later":       raw(4, "SBX1", 9, rootBytes(7, 513, 5, 5, rising(1)), 4),
		"Root born much later":  raw(4, "SBX1", 9, rootBytes(7, 513, last, 5, rising(1)), 4),
		"Root born in 0":        raw(4, "SBX1", 9, rootBytes(7, 513, 0, 5, rising(1)), 4),
		"Root born in 2^60 + 1": raw(last, "SBX1", 9, rootBytes(7, 513, last+1, 5, rising(1)), last),
		"Root born in 2^63":     raw(4, "SBX1", 9, rootBytes(7, 513, 1<<63, 5, rising(1)), 4),
		"Root born in 2^64 - 1": raw(4, "SBX1", 9, rootBytes(7, 513, math.MaxUint64, 5, rising(1)), 4),
		"Root at 0":             raw(4, "SBX1", 9, rootBytes(0, 513, 4, 5, rising(1)), 4),
		"Root at 1":             raw(4, "SBX1", 9, rootBytes(1, 513, 4, 5, rising(1)), 4),
		"Root at 8191":          raw(4, "SBX1", 9, rootBytes(8191, 513, 4, 5, rising(1)), 4),
		"Root far beyond":       raw(4, "SBX1", 9, rootBytes(math.MaxUint32, 513, 4, 5, rising(1)), 4),
		"Root of no bytes":      raw(4, "SBX1", 9, rootBytes(7, 0, 4, 5, rising(1)), 4),
		"Root too long":         raw(4, "SBX1", 9, rootBytes(7, most+1, 4, 5, rising(1)), 4),
		"Root of sums alone":    raw(4, "SBX1", 9, rootBytes(0, 0, 0, 5, rising(1)), 4),
		"Root of a Crc alone":   raw(4, "SBX1", 9, rootBytes(0, 0, 0, 1, [32]byte{}), 4),
		"Root of a Sha alone":   raw(4, "SBX1", 9, rootBytes(0, 0, 0, 0, rising(0)), 4),
		"nothing but a sum":     raw(0, "", 0, nil, 0),
		"ones":                  summed(bytes.Repeat([]byte{0xff}, size)),
	} {
		opens(t, what, b, label.Label{}, api.ErrForm)
		opens(t, what+", more behind", slices.Concat(b, sealed(label.Label{Epoch: 4, Next: 9})), label.Label{}, api.ErrForm)
	}
	opens(t, "what the wrong ones are made from", raw(4, "SBX1", 9, some, 4),
		label.Label{Epoch: 4, Root: api.Pointer{At: 7, Birth: 4, Length: 513, Crc: 5, Sha: rising(1)}, Next: 9}, api.OK)
	opens(t, "the same of no root", raw(4, "SBX1", 9, none, 4), label.Label{Epoch: 4, Next: 9}, api.OK)
}

func TestOpenOfOtherBytes(t *testing.T) { // P8.2: the letters, the zeros and the second epoch, each bit, with a right sum
	for _, l := range []label.Label{{Epoch: 4, Root: root(7, 4, 513), Next: 9}, {Epoch: 1, Next: 1}} {
		b := sealed(l)
		for _, part := range [][2]int{{8, nextAt}, {zerosAt, sumAt}, {againAt, size}} {
			for bit := part[0] * 8; bit < part[1]*8; bit++ {
				wrong := slices.Clone(b)
				wrong[bit/8] ^= 1 << (bit % 8)
				if got, e := label.Open(summed(wrong)); got != (label.Label{}) || e != api.ErrForm {
					t.Fatalf("Open with the bit %d turned = %+v, %d, want ErrForm", bit, got, int(e))
				}
			}
		}
	}
}

func TestOpenIsSealed(t *testing.T) { // P8.2: a label has one form, and each right one is opened
	seed := uint64(1)
	for range 2000 {
		b := sealed(label.Label{Epoch: 5, Root: root(7, 4, 513), Next: 9})
		for range 2 { // two bytes of the fields that are others, with a right sum
			seed = seed*6364136223846793005 + 1442695040888963407
			b[seed>>33%zerosAt] = byte(seed >> 56)
		}
		copy(b[againAt:], b[:8])
		l, e := label.Open(summed(b))
		if e == api.OK {
			seals(t, l, b, l.Epoch&1, api.OK)
			continue
		}
		p, pe := pointer.Read(b[rootAt:])
		epoch, next := binary.LittleEndian.Uint64(b), binary.LittleEndian.Uint64(b[nextAt:])
		if e != api.ErrForm || string(b[8:nextAt]) == "SBX1" && pe == api.OK && uint64(p.Birth) <= epoch &&
			epoch >= 1 && epoch <= last && next >= 1 && next <= last {
			t.Fatalf("Open of %x = %d", b, int(e))
		}
	}
}

// sector is what may lie in one of the two sectors: bytes, and the label that they are, or none.
type sector struct {
	what string
	b    []byte
	l    label.Label
}

// lying answers labels of all kinds, and bytes that are none.
func lying() []sector {
	out := []sector{
		{what: "nil"},
		{what: "no bytes", b: []byte{}},
		{what: "zeros", b: make([]byte, size)},
		{what: "ones", b: bytes.Repeat([]byte{0xff}, size)},
	}
	for _, epoch := range []int{1, 2, 3, 4, 5, 255, 256, 1 << 32, 1<<32 + 1, last - 1, last} {
		for _, l := range []label.Label{{Epoch: epoch, Next: 1}, {Epoch: epoch, Root: root(7, 1, 513), Next: last}} {
			b := sealed(l)
			out = append(out, sector{"a label", b, l}, sector{"one with more behind", slices.Concat(b, b), l})
			turned := slices.Clone(b)
			turned[300] = 1
			out = append(out, sector{what: "a label, one byte less", b: b[:size-1]}, sector{what: "one of another sum", b: turned},
				sector{what: "one of another form", b: summed(slices.Clone(turned))})
		}
	}
	return out
}

func TestChoose(t *testing.T) { // P8.3: all kinds in both sectors
	for _, a := range lying() {
		for _, b := range lying() {
			want := label.Label{}
			if a.l.Epoch > 0 && a.l.Epoch&1 == 0 {
				want = a.l
			}
			if b.l.Epoch > want.Epoch && b.l.Epoch&1 == 1 {
				want = b.l
			}
			inA, untouchedA := roomy(a.b)
			inB, untouchedB := roomy(b.b)
			if got, ok := label.Choose(inA, inB); got != want || ok != (want.Epoch > 0) {
				t.Errorf("Choose of %s (%d) and %s (%d) = %+v, %t, want %+v", a.what, a.l.Epoch, b.what, b.l.Epoch, got, ok, want)
			}
			if !untouchedA() || !untouchedB() {
				t.Errorf("Choose of %s and %s changed what was handed in", a.what, b.what)
			}
		}
	}
}

func TestChooseByHand(t *testing.T) { // P8.3
	at := func(epoch int) []byte { return sealed(label.Label{Epoch: epoch, Next: 8}) }
	for _, c := range []struct {
		what string
		a, b []byte
		want int // the epoch; 0: none
	}{
		{"the first one is greater", at(4), at(3), 4},
		{"the second one is greater", at(2), at(3), 3},
		{"far apart, the first one", at(last), at(1), last},
		{"far apart, the second one", at(2), at(last - 1), last - 1},
		{"one and none", at(2), nil, 2},
		{"none and one", nil, at(1), 1},
		{"one and zeros", at(2), make([]byte, size), 2},
		{"zeros and one, as of a new disk", make([]byte, size), at(1), 1},
		{"none", nil, nil, 0},
		{"zeros", make([]byte, size), make([]byte, size), 0},
		{"each in the sector of the other one", at(3), at(2), 0},
		{"an odd one in the sector 0", at(5), at(3), 3},
		{"an even one in the sector 1", at(2), at(4), 2},
		{"an odd one alone in the sector 0", at(1), nil, 0},
		{"an even one alone in the sector 1", nil, at(2), 0},
		{"too few bytes in the sector 0", at(4)[:size-1], at(3), 3},
		{"too few bytes in the sector 1", at(2), at(3)[:size-1], 2},
		{"the same in both", at(2), at(2), 2},
		{"the same, odd, in both", at(3), at(3), 3},
	} {
		got, ok := label.Choose(c.a, c.b)
		if got.Epoch != c.want || ok != (c.want > 0) || !ok && got != (label.Label{}) {
			t.Errorf("%s: Choose = %+v, %t, want the epoch %d", c.what, got, ok, c.want)
		}
	}
}

func TestChooseMemory(t *testing.T) { // P8.3: a label is no part of the bytes that it was read from
	l := label.Label{Epoch: 4, Root: root(7, 4, 513), Next: 9}
	a, b := sealed(l), sealed(label.Label{Epoch: 3, Next: 9})
	got, ok := label.Choose(a, b)
	clear(a)
	clear(b)
	if got != l || !ok {
		t.Errorf("with the bytes the label became %+v", got)
	}
}

// turned asks that a label's bytes are not opened where the bits of a pattern are turned, from a bit on. Bits are counted as in P2.1 and P1.1: the lowest of a byte is the first.
func turned(t *testing.T, b []byte, from int, pattern uint32) {
	t.Helper()
	wrong := slices.Clone(b)
	for i := range 32 {
		if pattern>>i&1 == 1 {
			wrong[(from+i)/8] ^= 1 << ((from + i) % 8)
		}
	}
	// The second epoch is behind the sum.
	want := api.ErrSum
	if from >= againAt*8 {
		want = api.ErrForm
	}
	if got, e := label.Open(wrong); got != (label.Label{}) || e != want {
		t.Fatalf("Open with the bits %08x turned from %d on = %+v, %d, want %d", pattern, from, got, int(e), int(want))
	}
	// Nor is it chosen, whichever sector it lies in.
	if from%97 == 0 {
		if got, ok := label.Choose(wrong, wrong); ok {
			t.Fatalf("Choose with the bits %08x turned from %d on = %+v", pattern, from, got)
		}
	}
}

func TestTurnedBit(t *testing.T) { // P8.4: any one
	for _, l := range []label.Label{{Epoch: 1, Next: 1}, {Epoch: 2, Root: root(7, 2, 513), Next: 3}, {Epoch: last, Root: root(2, 1, most), Next: last}} {
		for bit := range size * 8 {
			turned(t, sealed(l), bit, 1)
		}
	}
}

func TestTurnedBits(t *testing.T) { // P8.4: up to 32 side by side, at the beginning, in between and at the end
	seed := uint64(7)
	for _, l := range []label.Label{{Epoch: 3, Next: 2}, {Epoch: last - 2, Root: root(500, 77, 1000), Next: 1 << 40}} {
		b := sealed(l)
		for width := 2; width <= 32; width++ {
			ones := uint32(1<<width - 1)
			ends := uint32(1 | 1<<(width-1))
			for from := 0; from+width <= size*8; from++ {
				seed = seed*6364136223846793005 + 1442695040888963407
				turned(t, b, from, ones)
				turned(t, b, from, uint32(seed>>32)&ones|ends)
			}
			turned(t, b, 0, ends)
			turned(t, b, size*8-width, ends)
		}
	}
}

// mixed asks of two labels the first bytes of one with the others of the other one, at every cut.
func mixed(t *testing.T, one, other label.Label) {
	t.Helper()
	x, y := sealed(one), sealed(other)
	for cut := range size + 1 {
		b := slices.Concat(x[:cut], y[cut:])
		want, e := label.Label{}, api.ErrForm
		switch {
		case bytes.Equal(b, x):
			want, e = one, api.OK
		case bytes.Equal(b, y):
			want, e = other, api.OK
		}
		got, gotE := label.Open(b)
		if got != want || e == api.OK && gotE != e || e != api.OK && gotE != api.ErrSum && gotE != api.ErrForm {
			t.Fatalf("%+v up to %d, then %+v: Open = %+v, %d, want %+v", one, cut, other, got, int(gotE), want)
		}
		if cut == 0 && gotE != api.OK || cut == size && gotE != api.OK {
			t.Fatalf("%+v and %+v: a whole one is not opened: %d", one, other, int(gotE))
		}
	}
}

func TestMixedLabels(t *testing.T) { // P8.4
	var l []label.Label
	for _, epoch := range []int{1, 2, 3, 4, 5, 257, 258, 1<<32 + 1, 1<<56 + 2, last - 1, last} {
		l = append(l, label.Label{Epoch: epoch, Next: 1}, label.Label{Epoch: epoch, Root: root(7, 1, 513), Next: 1},
			label.Label{Epoch: epoch, Root: root(8, epoch, 513), Next: 1<<32 + epoch%1000})
	}
	for _, one := range l {
		for _, other := range l {
			if one.Epoch != other.Epoch {
				mixed(t, one, other)
			}
		}
	}
}

func TestTornWrite(t *testing.T) { // P8.3, P8.4: while a label is written on the one of two epochs ahead, the one between them counts, or it does
	for epoch := 1; epoch < 9; epoch++ {
		old := label.Label{Epoch: epoch, Root: root(7, epoch, 513), Next: epoch}
		between := label.Label{Epoch: epoch + 1, Root: root(9, epoch+1, 600), Next: epoch}
		next := label.Label{Epoch: epoch + 2, Root: root(11, epoch+2, 700), Next: epoch + 1}
		for cut := range size + 1 {
			disk := [2][]byte{}
			disk[epoch&1] = slices.Concat(sealed(next)[:cut], sealed(old)[cut:])
			disk[1-epoch&1] = sealed(between)
			want := between
			if bytes.Equal(disk[epoch&1], sealed(next)) {
				want = next
			}
			if got, ok := label.Choose(disk[0], disk[1]); got != want || !ok {
				t.Fatalf("%d bytes of the epoch %d written: Choose = %+v, %t, want %+v", cut, epoch+2, got, ok, want)
			}
		}
	}
}
