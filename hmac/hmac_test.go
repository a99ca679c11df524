package hmac_test

import (
	"bytes"
	stdhmac "crypto/hmac"
	"crypto/sha256"
	"encoding/hex"
	"slices"
	"strings"
	"testing"

	"shadowbox/hmac"
	"shadowbox/sha"
)

// keyLengths are the lengths around a block and a sum, and some far from them.
var keyLengths = []int{0, 1, 2, 16, 31, 32, 33, 55, 56, 63, 64, 65, 66, 96, 127, 128, 129, 1000, 5000}

// byteLengths are the lengths at which the sum's number of blocks changes, and some far from them.
var byteLengths = []int{0, 1, 2, 31, 32, 54, 55, 56, 57, 63, 64, 65, 119, 120, 127, 128, 129, 1000, 5000}

// plain is the chapter's words, by a sum that is not the program's.
func plain(key, b []byte) [32]byte {
	k := make([]byte, 64)
	if len(key) > 64 {
		sum := sha256.Sum256(key)
		copy(k, sum[:])
	} else {
		copy(k, key)
	}
	outer, inner := make([]byte, 64), make([]byte, 64)
	for i, c := range k {
		outer[i], inner[i] = c^0x5c, c^0x36
	}
	sum := sha256.Sum256(slices.Concat(inner, b))
	return sha256.Sum256(slices.Concat(outer, sum[:]))
}

// plainChain is the chapter's words, from the last part back.
func plainChain(key []byte, parts []string) []byte {
	if len(parts) == 0 {
		return slices.Clone(key)
	}
	last := len(parts) - 1
	code := plain(plainChain(key, parts[:last]), []byte(parts[last]))
	return code[:]
}

// mixed answers n bytes without a plain order, of which none is 0: the same ones each time.
func mixed(n int) []byte {
	b := make([]byte, n)
	x := uint32(n) + 1
	for i := range b {
		for b[i] == 0 {
			x = x*1664525 + 1013904223
			b[i] = byte(x >> 24)
		}
	}
	return b
}

// kinds are n bytes of each kind: mixed, zeros, zeros at the end or ahead or within, and bytes above 127.
func kinds(n int) [][]byte {
	end, ahead, within := mixed(n), mixed(n), mixed(n)
	clear(end[n/2:])
	clear(ahead[:n/2])
	clear(within[n/3 : n-n/3])
	high := mixed(n)
	for i := range high {
		high[i] |= 128
	}
	l := [][]byte{mixed(n), make([]byte, n), bytes.Repeat([]byte{255}, n), bytes.Repeat([]byte{0x36}, n), bytes.Repeat([]byte{0x5c}, n), end, ahead, within, high}
	if n == 0 {
		l = append(l, nil)
	}
	return l
}

// turned answers a copy of bytes with one bit turned.
func turned(b []byte, bit int) []byte {
	out := slices.Clone(b)
	out[bit/8] ^= 1 << (bit % 8)
	return out
}

func TestExample(t *testing.T) { // P12.1
	key, b := []byte("key"), []byte("The quick brown fox jumps over the lazy dog")
	const want = "f7bc83f430538424b13298e6aa6fb143ef4d59a14946175997479dbc2d1a3cd8"
	if got := hmac.Text(key, b); got != want {
		t.Errorf("Text = %s, want %s", got, want)
	}
	if got := hmac.Mac(key, b); hex.EncodeToString(got[:]) != want {
		t.Errorf("Mac = %x, want %s", got, want)
	}
}

func TestKnownCodes(t *testing.T) { // P12.1: those of RFC 4231, and of nothing by no key
	rising := make([]byte, 25)
	for i := range rising {
		rising[i] = byte(i + 1)
	}
	same := func(c byte, n int) []byte { return bytes.Repeat([]byte{c}, n) }
	for _, c := range []struct {
		key  []byte
		b    string
		want string
	}{
		{nil, "", "b613679a0814d9ec772f95d778c35fc5ff1697c493715653c6c712144292c5ad"},
		{same(0x0b, 20), "Hi There", "b0344c61d8db38535ca8afceaf0bf12b881dc200c9833da726e9376c2e32cff7"},
		{[]byte("Jefe"), "what do ya want for nothing?", "5bdcc146bf60754e6a042426089575c75a003f089d2739839dec58b964ec3843"},
		{same(0xaa, 20), strings.Repeat("\xdd", 50), "773ea91e36800e46854db8ebd09181a72959098b3ef8c122d9635514ced565fe"},
		{rising, strings.Repeat("\xcd", 50), "82558a389a443c0ea4cc819899f2083a85f0faa3e578f8077a2e3ff46729665b"},
		{same(0xaa, 131), "Test Using Larger Than Block-Size Key - Hash Key First", "60e431591ee0b67f0d8a26aacbf5b77f8e0bc6213728c5140546040f0ee37f54"},
		{same(0xaa, 131), "This is a test using a larger than block-size key and a larger than block-size data. The key needs to be hashed before being used by the HMAC algorithm.", "9b09ffa71b942fcb27635fbcd5b0e944bfdc63644f0713938a7f51535c3a35e2"},
	} {
		if got := hmac.Text(c.key, []byte(c.b)); got != c.want {
			t.Errorf("Text(%x, %q) = %s, want %s", c.key, c.b, got, c.want)
		}
	}
}

func TestOwnCodes(t *testing.T) { // P12.1: the test's own codes are the library's
	for _, n := range keyLengths {
		for _, m := range byteLengths {
			key, b := mixed(n), mixed(m)
			h := stdhmac.New(sha256.New, key)
			h.Write(b)
			if got := plain(key, b); !bytes.Equal(got[:], h.Sum(nil)) {
				t.Fatalf("the test's own code of %d bytes by %d is %x, the library's %x", m, n, got, h.Sum(nil))
			}
		}
	}
}

func TestMac(t *testing.T) { // P12.1
	for _, n := range keyLengths {
		for i, key := range kinds(n) {
			for _, m := range byteLengths {
				for j, b := range kinds(m) {
					want := plain(key, b)
					if got := hmac.Mac(key, b); got != want {
						t.Errorf("Mac of %d bytes (kind %d) by %d (kind %d) = %x, want %x", m, j, n, i, got, want)
					}
				}
			}
		}
	}
}

func TestMacOfAllLengths(t *testing.T) { // P12.1
	for n := range 200 {
		if got, want := hmac.Mac(mixed(n), []byte("abc")), plain(mixed(n), []byte("abc")); got != want {
			t.Errorf("Mac by a key of %d bytes = %x, want %x", n, got, want)
		}
		if got, want := hmac.Mac([]byte("abc"), mixed(n)), plain([]byte("abc"), mixed(n)); got != want {
			t.Errorf("Mac of %d bytes = %x, want %x", n, got, want)
		}
	}
	long := mixed(1 << 20)
	if got, want := hmac.Mac(long, long), plain(long, long); got != want {
		t.Errorf("Mac of 2^20 bytes by themselves = %x, want %x", got, want)
	}
}

func TestText(t *testing.T) { // P12.1: two digits of each byte, those below 16 too
	const digits = "0123456789abcdef"
	var met [256]bool
	for i := range 200 {
		key, b := mixed(i), mixed(200-i)
		text := hmac.Text(key, b)
		if len(text) != 64 {
			t.Fatalf("Text of %d bytes has %d digits", 200-i, len(text))
		}
		for j, c := range plain(key, b) {
			met[c] = true
			if want := string([]byte{digits[c/16], digits[c%16]}); text[2*j:2*j+2] != want {
				t.Errorf("digits of byte %d, %d, are %s", j, c, text[2*j:2*j+2])
			}
		}
	}
	for c, ok := range met {
		if !ok {
			t.Errorf("no code has a byte %d: the test needs more of them", c)
		}
	}
}

func TestNilAndEmpty(t *testing.T) { // P12.1: no key and no bytes are nil or empty
	want := plain(nil, nil)
	for _, key := range [][]byte{nil, {}} {
		for _, b := range [][]byte{nil, {}} {
			if got := hmac.Mac(key, b); got != want {
				t.Errorf("Mac(%#v, %#v) = %x, want %x", key, b, got, want)
			}
			if got := hmac.Text(key, b); got != hex.EncodeToString(want[:]) {
				t.Errorf("Text(%#v, %#v) = %s, want %x", key, b, got, want)
			}
		}
		if got := hmac.Mac(key, []byte("a")); got != plain(nil, []byte("a")) {
			t.Errorf("Mac(%#v, a) = %x", key, got)
		}
	}
}

func TestLongKeys(t *testing.T) { // P12.1: a key of more than 64 bytes, and no other, has the codes of its sum
	for _, n := range append(slices.Clone(keyLengths), 62, 67, 100, 65536) {
		for i, key := range kinds(n) {
			sum := sha.Sum(key)
			for _, b := range [][]byte{nil, []byte("abc"), mixed(100)} {
				alike := hmac.Mac(key, b) == hmac.Mac(sum[:], b)
				if alike != (n > 64) {
					t.Errorf("a key of %d bytes (kind %d) has the codes of its sum: %v", n, i, alike)
				}
			}
		}
	}
}

func TestEachBitTurnsTheCode(t *testing.T) { // P12.1: of the key and of the bytes
	for _, n := range []int{1, 31, 32, 63, 64, 65, 128} {
		key, b := mixed(n), mixed(n)
		was := hmac.Mac(key, b)
		for bit := range 8 * n {
			if hmac.Mac(turned(key, bit), b) == was {
				t.Errorf("the bit %d of a key of %d bytes changes no code", bit, n)
			}
			if hmac.Mac(key, turned(b, bit)) == was {
				t.Errorf("the bit %d of %d bytes changes no code", bit, n)
			}
		}
	}
}

func TestChainOfNone(t *testing.T) { // P12.2: the key as it is, whatever its length
	for _, n := range keyLengths {
		for i, key := range kinds(n) {
			for _, parts := range [][]string{nil, {}} {
				if got := hmac.Chain(key, parts); !bytes.Equal(got, key) {
					t.Errorf("Chain of no parts by a key of %d bytes (kind %d) = %x, want %x", n, i, got, key)
				}
			}
		}
	}
}

// rows are rows of parts of all kinds.
func rows() [][]string {
	long := string(mixed(5000))
	many := make([]string, 100)
	for i := range many {
		many[i] = string(mixed(i))
	}
	return [][]string{
		{""}, {"a"}, {"abc"}, {long}, {"\x00"}, {"\xff\x80"},
		{"", ""}, {"", "a"}, {"a", ""}, {"a", "b"}, {"b", "a"}, {"ab"}, {"a", "a"},
		{"", "a", "b"}, {"a", "", "b"}, {"a", "b", ""}, {"", "", ""}, {"a", "a", "a"},
		{"20130524", "us-east-1", "s3", "aws4_request"},
		{long, "", long, "b"},
		many,
	}
}

func TestChain(t *testing.T) { // P12.2
	for _, n := range keyLengths {
		for i, key := range kinds(n) {
			for _, parts := range rows() {
				got, want := hmac.Chain(key, parts), plainChain(key, parts)
				if !bytes.Equal(got, want) {
					t.Errorf("Chain of %d parts by a key of %d bytes (kind %d) = %x, want %x", len(parts), n, i, got, want)
				}
			}
		}
	}
}

func TestChainKnown(t *testing.T) { // P12.2: a key that is derived part by part, worked out elsewhere
	key := []byte("AWS4wJalrXUtnFEMI/K7MDENG+bPxRfiCYEXAMPLEKEY")
	for _, c := range []struct {
		parts []string
		want  string
	}{
		{[]string{"20120215", "us-east-1", "iam", "aws4_request"}, "f4780e2d9f65fa895f9c67b32ce1baf0b0d8a43505a000a1a9e090d414db404d"},
		{[]string{"20150830", "us-east-1", "iam", "aws4_request"}, "c4afb1cc5771d871763a393e44b703571b55cc28424d1a5e86da6ed3c154a4b9"},
	} {
		if got := hex.EncodeToString(hmac.Chain(key, c.parts)); got != c.want {
			t.Errorf("Chain of %q = %s, want %s", c.parts, got, c.want)
		}
	}
}

func TestChainStep(t *testing.T) { // P12.2: one part is its Mac, and each part is by the chain ahead of it
	for _, n := range keyLengths {
		key := mixed(n)
		for _, parts := range rows() {
			last := len(parts) - 1
			want := hmac.Mac(hmac.Chain(key, parts[:last]), []byte(parts[last]))
			if got := hmac.Chain(key, parts); !bytes.Equal(got, want[:]) {
				t.Errorf("Chain of %d parts by %d bytes = %x, want Mac of the last one, %x", len(parts), n, got, want)
			}
		}
		if got, want := hmac.Chain(key, []string{"a"}), hmac.Mac(key, []byte("a")); !bytes.Equal(got, want[:]) {
			t.Errorf("Chain of a by %d bytes = %x, want %x", n, got, want)
		}
	}
}

func TestChainGoesOn(t *testing.T) { // P12.2: from where one ends, wherever the parts are cut
	for _, n := range keyLengths {
		key := mixed(n)
		for _, parts := range rows() {
			want := plainChain(key, parts)
			for cut := range len(parts) + 1 {
				if got := hmac.Chain(hmac.Chain(key, parts[:cut]), parts[cut:]); !bytes.Equal(got, want) {
					t.Errorf("%d parts by %d bytes, cut at %d, are %x, want %x", len(parts), n, cut, got, want)
				}
			}
		}
	}
}

func TestSame(t *testing.T) { // P12.3
	for _, c := range []struct {
		a, b []byte
		want bool
	}{
		{nil, nil, true}, {nil, []byte{}, true}, {[]byte{}, nil, true}, {[]byte{}, []byte{}, true},
		{nil, []byte{0}, false}, {[]byte{0}, nil, false}, {[]byte{}, []byte("a"), false}, {[]byte("a"), []byte{}, false},
		{[]byte{0}, []byte{0}, true}, {[]byte{0}, []byte{0, 0}, false}, {[]byte{0, 0}, []byte{0}, false},
		{[]byte("abc"), []byte("abc"), true}, {[]byte("abc"), []byte("abcd"), false}, {[]byte("abcd"), []byte("abc"), false},
		{[]byte("abc"), []byte("xbc"), false}, {[]byte("abc"), []byte("axc"), false}, {[]byte("abc"), []byte("abx"), false},
		{[]byte("abc"), []byte("cba"), false}, {[]byte("ab"), []byte("ba"), false}, {[]byte("a"), []byte("A"), false},
		{[]byte{1, 2}, []byte{3, 0}, false}, {[]byte{255, 255}, []byte{0, 0}, false},
	} {
		if got := hmac.Same(c.a, c.b); got != c.want {
			t.Errorf("Same(%x, %x) = %v", c.a, c.b, got)
		}
	}
}

func TestSameOfLengths(t *testing.T) { // P12.3: each bit counts, and so does each byte that is missing
	for _, n := range []int{1, 2, 31, 32, 33, 63, 64, 65, 256, 300} {
		for i, a := range kinds(n) {
			if !hmac.Same(a, a) || !hmac.Same(a, slices.Clone(a)) {
				t.Errorf("%d bytes (kind %d) are not the same as themselves", n, i)
			}
			for bit := range 8 * n {
				b := turned(a, bit)
				if hmac.Same(a, b) || hmac.Same(b, a) {
					t.Errorf("%d bytes (kind %d) are the same with the bit %d turned", n, i, bit)
				}
			}
			for m := range n {
				if hmac.Same(a, a[:m]) || hmac.Same(a[:m], a) {
					t.Errorf("%d bytes (kind %d) are the same as the first %d of them", n, i, m)
				}
			}
		}
	}
}

// What is turned in two bytes alike must not make up for itself, in whatever way they are gathered.
func TestSameOfTwoBytes(t *testing.T) { // P12.3
	a := mixed(32)
	for i := range a {
		for j := range i {
			for _, c := range []byte{1, 128, 255} {
				b := slices.Clone(a)
				b[i] ^= c
				b[j] ^= c
				if hmac.Same(a, b) {
					t.Errorf("with the bytes %d and %d turned by %d all are the same", j, i, c)
				}
			}
		}
	}
}

func TestSameOfAllBytes(t *testing.T) { // P12.3
	for a := range 256 {
		for b := range 256 {
			x, y := []byte{7, byte(a), 7}, []byte{7, byte(b), 7}
			if got := hmac.Same(x, y); got != (a == b) {
				t.Errorf("Same(%x, %x) = %v", x, y, got)
			}
		}
	}
}

func TestZerosBehindKey(t *testing.T) { // P12.4: up to 64 bytes they change no code, above that they do
	for _, n := range []int{0, 1, 2, 31, 32, 33, 62, 63, 64} {
		for i, key := range kinds(n) {
			for more := range 200 - n {
				longer := append(slices.Clone(key), make([]byte, more)...)
				for _, b := range [][]byte{nil, []byte("abc"), mixed(100)} {
					same := hmac.Mac(longer, b) == hmac.Mac(key, b)
					if same != (n+more <= 64) {
						t.Errorf("a key of %d bytes (kind %d) with %d zeros behind it has the codes of that key: %v", n, i, more, same)
					}
					if texts := hmac.Text(longer, b) == hmac.Text(key, b); texts != same {
						t.Errorf("by a key of %d bytes (kind %d) with %d zeros behind it Text says %v, Mac %v", n, i, more, texts, same)
					}
				}
			}
		}
	}
}

func TestZerosBehindLongKey(t *testing.T) { // P12.4: of more than 64 bytes the sum is the key, and zeros behind that change no code
	for _, n := range []int{65, 128, 1000} {
		key := mixed(n)
		if hmac.Mac(append(slices.Clone(key), 0), nil) == hmac.Mac(key, nil) {
			t.Errorf("a key of %d bytes with a zero behind it is that key", n)
		}
		sum := sha.Sum(key)
		for more := range 33 {
			if hmac.Mac(append(sum[:len(sum):len(sum)], make([]byte, more)...), nil) != hmac.Mac(key, nil) {
				t.Errorf("the sum of a key of %d bytes with %d zeros behind it is not that key", n, more)
			}
		}
	}
}

func TestZerosAheadOfKey(t *testing.T) { // P12.4: those are another key
	for _, n := range []int{1, 31, 32, 63} {
		key := mixed(n)
		if hmac.Mac(append([]byte{0}, key...), nil) == hmac.Mac(key, nil) {
			t.Errorf("a key of %d bytes with a zero ahead of it is that key", n)
		}
		if hmac.Mac(append(slices.Clone(key), 1), nil) == hmac.Mac(key, nil) {
			t.Errorf("a key of %d bytes with a 1 behind it is that key", n)
		}
	}
}

func TestZerosBehindKeyInChain(t *testing.T) { // P12.4
	for _, n := range []int{0, 1, 32, 64} {
		key := mixed(n)
		for more := range 100 - n {
			longer := append(slices.Clone(key), make([]byte, more)...)
			same := bytes.Equal(hmac.Chain(longer, []string{"a", "b"}), hmac.Chain(key, []string{"a", "b"}))
			if same != (n+more <= 64) {
				t.Errorf("a chain by a key of %d bytes with %d zeros behind it is that of the key: %v", n, more, same)
			}
			if got := hmac.Chain(longer, nil); !bytes.Equal(got, longer) {
				t.Errorf("Chain of no parts by %x = %x", longer, got)
			}
		}
	}
}

// roomy answers bytes with spare room behind them, and all of it.
func roomy(n int) (b, all []byte) {
	all = append(mixed(n), bytes.Repeat([]byte{0xee}, 200)...)
	return all[:n], all
}

func TestMemory(t *testing.T) { // rule 4: what is handed in stays as it was, spare room too, and that is not read
	for _, n := range keyLengths {
		for _, m := range byteLengths {
			key, allKey := roomy(n)
			b, allBytes := roomy(m)
			wasKey, wasBytes := slices.Clone(allKey), slices.Clone(allBytes)
			parts := []string{"a", string(b), "", "b"}
			wasParts := slices.Clone(parts)
			mac, text, chain, none, same := hmac.Mac(key, b), hmac.Text(key, b), hmac.Chain(key, parts[:3]), hmac.Chain(key, parts[:0]), hmac.Same(key, b)
			if !bytes.Equal(allKey, wasKey) || !bytes.Equal(allBytes, wasBytes) || !slices.Equal(parts, wasParts) {
				t.Fatalf("of a key of %d bytes and %d bytes, what was handed in was changed", n, m)
			}
			for i := n; i < len(allKey); i++ {
				allKey[i] = 0x11
			}
			for i := m; i < len(allBytes); i++ {
				allBytes[i] = 0x22
			}
			parts[3] = "c"
			if hmac.Mac(key, b) != mac || hmac.Text(key, b) != text || hmac.Same(key, b) != same ||
				!bytes.Equal(hmac.Chain(key, parts[:3]), chain) || !bytes.Equal(hmac.Chain(key, parts[:0]), none) {
				t.Errorf("of a key of %d bytes and %d bytes, the answers hang on the spare room", n, m)
			}
		}
	}
}

func TestSameLeavesAll(t *testing.T) { // rule 4
	for _, n := range []int{0, 1, 32, 64} {
		a, allA := roomy(n)
		b, allB := roomy(n)
		was := slices.Clone(allA)
		allB[n] ^= 1
		wasB := slices.Clone(allB)
		if !hmac.Same(a, b) {
			t.Errorf("%d bytes are not the same with other spare room", n)
		}
		if !bytes.Equal(allA, was) || !bytes.Equal(allB, wasB) {
			t.Errorf("Same of %d bytes changed them", n)
		}
	}
}

// What a chain told is written over, all its room too: neither the key nor an answer may have changed.
func TestChainIsNewMemory(t *testing.T) { // P12.2
	for _, n := range keyLengths {
		for _, parts := range [][]string{nil, {"a"}, {"a", "b"}, {"", "a", ""}} {
			key, all := roomy(n)
			was := slices.Clone(all)
			first := hmac.Chain(key, parts)
			kept := slices.Clone(first)
			second := hmac.Chain(key, parts)
			second = second[:cap(second)]
			for i := range second {
				second[i] ^= 255
			}
			if !bytes.Equal(all, was) {
				t.Fatalf("Chain of %d parts shares memory with its key of %d bytes", len(parts), n)
			}
			if !bytes.Equal(first, kept) {
				t.Errorf("Chain of %d parts by %d bytes shares memory with an earlier answer", len(parts), n)
			}
			if third := hmac.Chain(key, parts); !bytes.Equal(third, kept) {
				t.Errorf("Chain of %d parts by %d bytes is another one, when an earlier answer was changed", len(parts), n)
			}
			for i := range all {
				all[i] ^= 255
			}
			if !bytes.Equal(first, kept) {
				t.Errorf("what Chain of %d parts told goes on with its key of %d bytes", len(parts), n)
			}
		}
	}
}
