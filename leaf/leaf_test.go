package leaf_test

import (
	"bytes"
	"encoding/binary"
	"fmt"
	"math"
	"slices"
	"strings"
	"testing"

	"shadowbox/api"
	"shadowbox/codec"
	"shadowbox/leaf"
	"shadowbox/pointer"
)

// The limits, as the document tells them.
const (
	most        = 4096
	levels      = 12
	maxKey      = 160
	maxValue    = 1024
	pointerSize = 52
	sectors     = 8192
	maxLength   = 65536
	lastBirth   = 1 << 60
)

// block answers a pointer that is right where the numbers are.
func block(at, birth, length int) api.Pointer {
	p := api.Pointer{At: at, Birth: birth, Length: length, Crc: 0x81828384}
	for i := range p.Sha {
		p.Sha[i] = byte(at + i)
	}
	return p
}

// fitBlocks and unfitBlocks answer pointers that are right, and that are not: each field at its edges.
func fitBlocks() []api.Pointer {
	return []api.Pointer{
		block(2, 1, 1), block(sectors-1, 1, 512), block(sectors-1, 1, 1), block(sectors-2, 1, 513), block(sectors-128, 1, maxLength),
		block(7, lastBirth, 513), block(7, lastBirth-1, 513), block(7, 1, maxLength-1), {At: 9, Birth: 2, Length: 3},
		{At: 9, Birth: 2, Length: 3, Crc: math.MaxUint32}, block(300, 1<<40, 5000),
	}
}

func unfitBlocks() []api.Pointer {
	l := []api.Pointer{{}, {Crc: 1}, {Sha: [32]byte{31: 1}}, {At: 7}, {Birth: 1}, {Length: 1}, {Crc: 5, Sha: [32]byte{1, 2}}}
	for _, at := range []int{math.MinInt, -7, -1, 0, 1, sectors - 1, sectors, sectors + 1, 1<<32 + 7, math.MaxInt} {
		l = append(l, block(at, 1, 513))
	}
	for _, birth := range []int{math.MinInt, -1, 0, lastBirth + 1, math.MaxInt} {
		l = append(l, block(7, birth, 513))
	}
	for _, length := range []int{math.MinInt, -1, 0, maxLength + 1, 1<<32 + 1, math.MaxInt} {
		l = append(l, block(7, 1, length))
	}
	return append(l, block(sectors-127, 1, maxLength), block(sectors, 1, 1), block(sectors-1, 1, 513))
}

// plainBlock tells whether a pointer is right, by the words of chapter 6.
func plainBlock(p api.Pointer) bool {
	if p.Birth < 1 || p.Birth > lastBirth || p.Length < 1 || p.Length > maxLength || p.At < 2 || p.At > sectors {
		return false
	}
	return p.At+(p.Length+511)/512 <= sectors
}

func plainPointer(p api.Pointer) []byte {
	b := binary.LittleEndian.AppendUint32(nil, uint32(p.At))
	b = binary.LittleEndian.AppendUint32(b, uint32(p.Length))
	b = binary.LittleEndian.AppendUint64(b, uint64(p.Birth))
	b = binary.LittleEndian.AppendUint32(b, p.Crc)
	return append(b, p.Sha[:]...)
}

func plainText(s []byte) []byte { return append(binary.AppendUvarint(nil, uint64(len(s))), s...) }

// begins tells how many bytes b begins with as a does.
func begins(a, b []byte) int {
	n := len(b)
	for !bytes.HasPrefix(a, b[:n]) {
		n--
	}
	return n
}

// plainFormed tells whether all of a node is right, but for how many bytes it has, by the chapter's words.
func plainFormed(n leaf.Node) bool {
	if n.Level < 0 || n.Level > levels || len(n.Keys) == 0 {
		return false
	}
	for i, key := range n.Keys {
		if len(key) > maxKey || i > 0 && string(n.Keys[i-1]) >= string(key) {
			return false
		}
	}
	if n.Level == 0 {
		return len(n.Vals) == len(n.Keys) && len(n.Kids) == 0 && !slices.ContainsFunc(n.Vals, func(v []byte) bool { return len(v) > maxValue })
	}
	return len(n.Kids) == len(n.Keys) && len(n.Vals) == 0 && !slices.ContainsFunc(n.Kids, func(p api.Pointer) bool { return !plainBlock(p) })
}

// plainBytes tells a node's bytes, by the chapter's words.
func plainBytes(n leaf.Node) []byte {
	b := binary.AppendUvarint(nil, uint64(n.Level))
	b = binary.AppendUvarint(b, uint64(len(n.Keys)))
	for i, key := range n.Keys {
		begun := 0
		if i > 0 {
			begun = begins(n.Keys[i-1], key)
		}
		b = binary.AppendUvarint(b, uint64(begun))
		b = append(b, plainText(key[begun:])...)
		if n.Level == 0 {
			b = append(b, plainText(n.Vals[i])...)
		} else {
			b = append(b, plainPointer(n.Kids[i])...)
		}
	}
	return b
}

func plainPut(n leaf.Node) ([]byte, api.Errno) {
	if !plainFormed(n) {
		return nil, api.ErrArg
	}
	b := plainBytes(n)
	if len(b) > most {
		return nil, api.ErrBig
	}
	return b, api.OK
}

// plainRead tells the node of bytes, part by part, each held against the chapter's words; false: there is none.
func plainRead(b []byte) (n leaf.Node, ok bool) {
	if len(b) > most {
		return leaf.Node{}, false
	}
	right := true
	number := func(most uint64) int {
		x, used := binary.Uvarint(b)
		if used <= 0 || used > 1 && b[used-1] == 0 || x > most {
			right, b = false, nil
			return 0
		}
		b = b[used:]
		return int(x)
	}
	part := func(size int) []byte {
		if size > len(b) {
			right, b = false, nil
			return make([]byte, size)
		}
		p := b[:size]
		b = b[size:]
		return p
	}
	n.Level = number(levels)
	many := number(most)
	for i := 0; i < many && right; i++ {
		var ahead []byte
		if i > 0 {
			ahead = n.Keys[i-1]
		}
		begun := number(uint64(len(ahead)))
		rest := part(number(maxKey))
		key := slices.Concat(ahead[:begun], rest)
		right = right && begins(ahead, key) == begun
		n.Keys = append(n.Keys, key)
		if n.Level == 0 {
			n.Vals = append(n.Vals, bytes.Clone(part(number(maxValue))))
			continue
		}
		p := part(pointerSize)
		kid := api.Pointer{At: int(binary.LittleEndian.Uint32(p)), Length: int(binary.LittleEndian.Uint32(p[4:])),
			Birth: int(binary.LittleEndian.Uint64(p[8:])), Crc: binary.LittleEndian.Uint32(p[16:])}
		copy(kid.Sha[:], p[20:])
		n.Kids = append(n.Kids, kid)
	}
	if !right || len(b) > 0 || !plainFormed(n) {
		return leaf.Node{}, false
	}
	return n, true
}

// lists answers texts as bytes.
func lists(l ...string) (out [][]byte) {
	for _, s := range l {
		out = append(out, []byte(s))
	}
	return out
}

// node answers one of a level, with a right child, or a value, for each key.
func node(level int, keys ...string) leaf.Node {
	n := leaf.Node{Level: level, Keys: lists(keys...)}
	fit := fitBlocks()
	for i := range keys {
		if level == 0 {
			n.Vals = append(n.Vals, []byte(strings.Repeat("v", i%4)))
		} else {
			n.Kids = append(n.Kids, fit[i%len(fit)])
		}
	}
	return n
}

// copied answers a node in memory of its own.
func copied(n leaf.Node) leaf.Node {
	all := func(l [][]byte) (out [][]byte) {
		for _, b := range l {
			out = append(out, bytes.Clone(b))
		}
		return out
	}
	return leaf.Node{Level: n.Level, Keys: all(n.Keys), Vals: all(n.Vals), Kids: slices.Clone(n.Kids)}
}

// same tells whether nodes are the same; lists and texts without elements are, nil or not.
func same(a, b leaf.Node) bool {
	return a.Level == b.Level && slices.EqualFunc(a.Keys, b.Keys, bytes.Equal) &&
		slices.EqualFunc(a.Vals, b.Vals, bytes.Equal) && slices.Equal(a.Kids, b.Kids)
}

func zero(n leaf.Node) bool {
	return n.Level == 0 && len(n.Keys) == 0 && len(n.Vals) == 0 && len(n.Kids) == 0
}

// roomy answers b with spare room behind it, and a look at whether all of both is as it was.
func roomy(b []byte) (out []byte, untouched func() bool) {
	all := slices.Concat(b, bytes.Repeat([]byte{0xee}, 99))
	want := slices.Clone(all)
	return all[:len(b)], func() bool { return bytes.Equal(all, want) }
}

// roomyNode is roomy of a node, of its lists and of all that stands in them.
func roomyNode(n leaf.Node) (out leaf.Node, untouched func() bool) {
	var looks []func() bool
	spare := []byte("spare")
	texts := func(l [][]byte) [][]byte {
		var all [][]byte
		for _, b := range l {
			in, look := roomy(b)
			all = append(all, in)
			looks = append(looks, look)
		}
		all = append(all, spare, spare, spare)
		kept := slices.Clone(all)
		looks = append(looks, func() bool {
			return slices.EqualFunc(all, kept, func(a, b []byte) bool {
				return len(a) == len(b) && cap(a) == cap(b) && &a[:1][0] == &b[:1][0]
			})
		})
		return all[:len(l)]
	}
	kids := slices.Concat(n.Kids, []api.Pointer{{At: 1}, {At: 2}})
	keptKids := slices.Clone(kids)
	out = leaf.Node{Level: n.Level, Keys: texts(n.Keys), Vals: texts(n.Vals), Kids: kids[:len(n.Kids)]}
	return out, func() bool {
		return slices.Equal(kids, keptKids) && string(spare) == "spare" && !slices.ContainsFunc(looks, func(look func() bool) bool { return !look() })
	}
}

// brief shows a node in a line.
func brief(n leaf.Node) string {
	s := fmt.Sprintf("{%d, keys %.9q (%d), vals %.9q (%d), kids (%d)}", n.Level, n.Keys, len(n.Keys), n.Vals, len(n.Vals), len(n.Kids))
	if len(s) > 400 {
		return s[:400]
	}
	return s
}

// puts asks Put, Right, and, of bytes, Read, of a node, and that it is left as it was.
func puts(t *testing.T, what string, n leaf.Node, e api.Errno) {
	t.Helper()
	want, wantE := plainPut(n)
	if wantE != e {
		t.Fatalf("%s: the test's own words tell %d of %s, not %d", what, int(wantE), brief(n), int(e))
	}
	in, untouched := roomyNode(n)
	got, gotE := leaf.Put(in)
	if gotE != e || !bytes.Equal(got, want) {
		t.Errorf("%s: Put of %s = %x, %d, want %x, %d", what, brief(n), got, int(gotE), want, int(e))
	}
	if right := leaf.Right(in); right != (e == api.OK) {
		t.Errorf("%s: Right of %s is %t", what, brief(n), right)
	}
	if !untouched() {
		t.Errorf("%s: what was handed in was changed: %s", what, brief(n))
	}
	if e == api.OK {
		reads(t, what, got, api.OK)
		if read, _ := leaf.Read(got); !same(read, n) {
			t.Errorf("%s: %s was put, %s is read", what, brief(n), brief(read))
		}
	}
}

// reads asks Read of bytes, and that it leaves them as they are.
func reads(t *testing.T, what string, b []byte, e api.Errno) {
	t.Helper()
	want, ok := plainRead(b)
	if ok != (e == api.OK) {
		t.Fatalf("%s: the test's own words tell %t of %x", what, ok, b)
	}
	in, untouched := roomy(b)
	got, gotE := leaf.Read(in)
	if gotE != e || !same(got, want) || e != api.OK && !zero(got) {
		t.Errorf("%s: Read of %x = %s, %d, want %s, %d", what, b, brief(got), int(gotE), brief(want), int(e))
	}
	if !untouched() {
		t.Errorf("%s: Read of %x changed what was handed in", what, b)
	}
	if again, againE := leaf.Put(got); e == api.OK && (againE != api.OK || !bytes.Equal(again, b)) {
		t.Errorf("%s: %x was read, %x is put", what, b, again)
	}
}

// judged asks Read of bytes of which the test's own words tell whether they are a node.
func judged(t *testing.T, what string, b []byte) {
	t.Helper()
	want, ok := plainRead(b)
	e := api.OK
	if !ok {
		e = api.ErrForm
	}
	got, gotE := leaf.Read(b)
	if gotE != e || !same(got, want) {
		t.Fatalf("%s: Read of %x = %s, %d, want %s, %d", what, b, brief(got), int(gotE), brief(want), int(e))
	}
	if !ok {
		return
	}
	if again, againE := leaf.Put(got); againE != api.OK || !bytes.Equal(again, b) {
		t.Fatalf("%s: %x was read, %x is put", what, b, again)
	}
}

// keyLists answers keys of right nodes of all levels.
func keyLists() map[string][]string {
	long := strings.Repeat("l", maxKey-1)
	l := map[string][]string{
		"an empty key":                     {""},
		"one key":                          {"a"},
		"a zero":                           {"\x00"},
		"the greatest byte":                {"\xff"},
		"the greatest key":                 {strings.Repeat("\xff", maxKey)},
		"an empty key and another":         {"", "a"},
		"an empty key and a zero":          {"", "\x00"},
		"an empty key and the longest":     {"", long + "x"},
		"the example's":                    {"a", "ab"},
		"nothing in common":                {"a", "b"},
		"something in common":              {"aab", "aac"},
		"something, then a longer one":     {"ab", "acc"},
		"something, then a shorter one":    {"abcd", "ac"},
		"the last byte alone":              {long + "a", long + "b"},
		"the last byte alone, above 127":   {long + "\x7f", long + "\x80"},
		"bytes above 127":                  {"\x7f", "\x80", "\xfe", "\xff"},
		"bytes above 127 further on":       {"a\x7f\xff", "a\x80", "a\xff\x00", "a\xff\xff"},
		"a beginning of the longest":       {long, long + "a"},
		"beginnings":                       {"", "a", "ab", "abc", "abcd"},
		"zeros":                            {"", "\x00", "\x00\x00", "\x00\x01", "\x01"},
		"two, then one of other beginning": {"abc", "abd", "b", "ba"},
		"more in common with one further":  {"abc", "b", "bbc", "c"},
		"a key of 127":                     {long[:127]},
		"a key of 128":                     {long[:128]},
		"127 in common":                    {long[:127], long[:128], long[:127] + "m"},
		"128 in common":                    {long[:128], long[:129], long[:128] + "m"},
		"behind 128 in common":             {long[:129], long[:128] + "m" + long[:31]},
	}
	for i := range 60 {
		l["many, something in common"] = append(l["many, something in common"], fmt.Sprintf("key%03d", i*3))
		l["many, nothing in common"] = append(l["many, nothing in common"], string([]byte{byte(4 * i), 'x'}))
		l["many long ones"] = append(l["many long ones"], fmt.Sprintf("%s%05d", long[:maxKey-5], i))
	}
	return l
}

// rights answers right nodes of all levels.
func rights() (l []leaf.Node) {
	for _, keys := range keyLists() {
		for level := range levels + 1 {
			l = append(l, node(level, keys...))
		}
	}
	for _, size := range []int{0, 1, 2, 127, 128, 129, 255, 256, maxValue - 1, maxValue} {
		v := bytes.Repeat([]byte{0x80}, size)
		l = append(l, leaf.Node{Keys: lists("k"), Vals: [][]byte{v}}, leaf.Node{Keys: lists("k", "l", "m"), Vals: [][]byte{nil, v, {}}})
	}
	for _, p := range fitBlocks() {
		l = append(l, leaf.Node{Level: 1, Keys: lists(""), Kids: []api.Pointer{p}}, leaf.Node{Level: levels, Keys: lists("k", "l"), Kids: []api.Pointer{p, p}})
	}
	return l
}

// filled answers a node of so many keys, whose bytes are just so many: its values, or its keys, are made as long as need be.
func filled(t *testing.T, level, keys, size int) leaf.Node {
	t.Helper()
	n := leaf.Node{Level: level}
	for i := range keys {
		n.Keys = append(n.Keys, []byte{byte(i >> 7), byte(2 * i)})
		if keys < 128 {
			n.Keys[i] = []byte{byte(2 * i)}
		}
		if level == 0 {
			n.Vals = append(n.Vals, nil)
		} else {
			n.Kids = append(n.Kids, block(2+i, 1+i, 100+i))
		}
	}
	grown, greatest := n.Vals, maxValue
	if level > 0 {
		grown, greatest = n.Keys, maxKey
	}
	have := len(plainBytes(n))
	for i := range grown {
		for len(grown[i]) < greatest {
			longer := append(slices.Clip(grown[i]), 'f')
			more := len(plainText(longer)) - len(plainText(grown[i]))
			if have+more > size {
				break
			}
			grown[i], have = longer, have+more
		}
	}
	if got := len(plainBytes(n)); got != size {
		t.Fatalf("a node of level %d and %d keys can't be filled to %d bytes: %d", level, keys, size, got)
	}
	return n
}

// fillings answers how many keys a node of a level may have that has just about most bytes.
func fillings(level int) []int {
	if level == 0 {
		return []int{4, 5, 17, 100, 127, 128, 400, 1000}
	}
	return []int{20, 33, 60, 73, 74}
}

func TestExample(t *testing.T) { // the chapter's example 1
	n := leaf.Node{Keys: lists("a", "ab"), Vals: lists("1", "2")}
	want := "\x00\x02\x00\x01a\x011\x01\x01b\x012"
	if b, e := leaf.Put(n); string(b) != want || e != api.OK || len(b) != 12 {
		t.Errorf("Put = %x, %d, want %x", b, int(e), want)
	}
	if got, e := leaf.Read([]byte(want)); !same(got, n) || e != api.OK {
		t.Errorf("Read = %s, %d", brief(got), int(e))
	}
}

func TestLimits(t *testing.T) {
	if leaf.Most != most || leaf.Levels != levels || api.MaxKey != maxKey || api.MaxValue != maxValue || pointer.Size != pointerSize {
		t.Error("the limits are others")
	}
}

func TestWeight(t *testing.T) { // P16.1: also of keys and values that no node has
	sizes := map[int]int{0: 1, 1: 1, 2: 1, 126: 1, 127: 1, 128: 2, 129: 2, maxKey: 2, maxKey + 1: 2, maxValue: 2, maxValue + 1: 2,
		16383: 2, 16384: 3, 1<<21 - 1: 3, 1 << 21: 4} // how many bytes tell such a length
	for k, keyHead := range sizes {
		for v, valHead := range sizes {
			key, untouchedKey := roomy(make([]byte, k))
			val, untouchedVal := roomy(make([]byte, v))
			if got, want := leaf.Weight(key, val, false), 1+keyHead+k+valHead+v; got != want {
				t.Errorf("Weight of %d and %d bytes = %d, want %d", k, v, got, want)
			}
			if got, want := leaf.Weight(key, val, true), 1+keyHead+k+52; got != want {
				t.Errorf("Weight of %d bytes, %d that do not count, and a child = %d, want %d", k, v, got, want)
			}
			if !untouchedKey() || !untouchedVal() {
				t.Errorf("Weight of %d and %d bytes changed what was handed in", k, v)
			}
		}
	}
	if a, b := leaf.Weight(nil, nil, false), leaf.Weight(nil, nil, true); a != 3 || b != 54 {
		t.Errorf("Weight of nil = %d, with a child %d, want 3 and 54", a, b)
	}
	if got, want := leaf.Weight([]byte("ab"), []byte("1"), false), 1+len(codec.Text(nil, "ab"))+len(codec.Text(nil, "1")); got != want {
		t.Errorf("Weight of ab and 1 = %d, want %d", got, want)
	}
}

func TestRightNodes(t *testing.T) { // P16.1, P16.2, P16.3, P16.5
	for _, n := range rights() {
		puts(t, "right", n, api.OK)
	}
}

func TestLevels(t *testing.T) { // P16.1, P16.2: all levels, with values, with children, with both and with none
	kid := []api.Pointer{block(7, 1, 513)}
	for _, level := range []int{math.MinInt, math.MinInt + 1, -256, -13, -12, -1, 0, 1, 2, 3, 4, 5, 6, 7, 8, 9, 10, 11, 12, 13, 14, 127, 128, 256, 1 << 32, math.MaxInt - 1, math.MaxInt} {
		valued, parent := api.ErrArg, api.ErrArg
		if level == 0 {
			valued = api.OK
		}
		if level > 0 && level < 13 {
			parent = api.OK
		}
		for _, key := range []string{"", "k"} {
			keys := lists(key)
			puts(t, "a value", leaf.Node{Level: level, Keys: keys, Vals: lists("v")}, valued)
			puts(t, "an empty value", leaf.Node{Level: level, Keys: keys, Vals: lists(""), Kids: []api.Pointer{}}, valued)
			puts(t, "a child", leaf.Node{Level: level, Keys: keys, Kids: kid}, parent)
			puts(t, "a child, and no values", leaf.Node{Level: level, Keys: keys, Vals: [][]byte{}, Kids: kid}, parent)
			puts(t, "both", leaf.Node{Level: level, Keys: keys, Vals: lists("v"), Kids: kid}, api.ErrArg)
			puts(t, "neither", leaf.Node{Level: level, Keys: keys}, api.ErrArg)
		}
		puts(t, "nothing", leaf.Node{Level: level}, api.ErrArg)
		puts(t, "empty lists", leaf.Node{Level: level, Keys: [][]byte{}, Vals: [][]byte{}, Kids: []api.Pointer{}}, api.ErrArg)
		puts(t, "a value without a key", leaf.Node{Level: level, Vals: lists("v")}, api.ErrArg)
		puts(t, "a child without a key", leaf.Node{Level: level, Kids: kid}, api.ErrArg)
	}
}

func TestKeys(t *testing.T) { // P16.1, P16.2: keys that may not be, at all levels
	long := strings.Repeat("l", maxKey)
	for what, keys := range map[string][]string{
		"a key too long":                     {long + "l"},
		"a key much too long":                {strings.Repeat("l", 3000)},
		"the first one too long":             {long + "l", "m", "n"},
		"one between too long":               {"a", long + "l", "m"},
		"the last one too long":              {"a", "b", long + "l"},
		"too long behind its beginning":      {long, long + "l"},
		"an empty key behind another":        {"a", ""},
		"an empty key further on":            {"", "a", ""},
		"two empty keys":                     {"", ""},
		"the same twice":                     {"a", "a"},
		"the longest twice":                  {long, long},
		"the same twice at the end":          {"a", "b", "b"},
		"the same twice at the beginning":    {"a", "a", "b"},
		"falling":                            {"b", "a"},
		"falling at the end":                 {"a", "c", "b"},
		"falling at the beginning":           {"b", "a", "c"},
		"falling in the last byte":           {long[:159] + "b", long[:159] + "a"},
		"falling from a byte above 127":      {"\x80", "\x7f"},
		"falling above 127":                  {"\xff", "\xfe"},
		"falling to its beginning":           {"ab", "a"},
		"falling to its beginning, of zeros": {"\x00\x00", "\x00"},
		"longer, but less":                   {"b", "ab"},
	} {
		for level := range levels + 1 {
			puts(t, what, node(level, keys...), api.ErrArg)
		}
	}
	for level := range levels + 1 {
		puts(t, "the longest", node(level, long), api.OK)
	}
}

func TestValues(t *testing.T) { // P16.1, P16.2
	for size, e := range map[int]api.Errno{0: api.OK, 1: api.OK, 127: api.OK, 128: api.OK, maxValue - 1: api.OK, maxValue: api.OK,
		maxValue + 1: api.ErrArg, maxValue + 2: api.ErrArg, 3000: api.ErrArg, most: api.ErrArg, 1 << 20: api.ErrArg} {
		v := bytes.Repeat([]byte("v"), size)
		for at := range 3 {
			vals := lists("", "x", "y")
			vals[at] = v
			puts(t, fmt.Sprintf("a value of %d bytes at %d", size, at), leaf.Node{Keys: lists("a", "b", "c"), Vals: vals}, e)
		}
		puts(t, fmt.Sprintf("one value of %d bytes", size), leaf.Node{Keys: lists("a"), Vals: [][]byte{v}}, e)
	}
	puts(t, "nil for a key and a value", leaf.Node{Keys: [][]byte{nil}, Vals: [][]byte{nil}}, api.OK)
	puts(t, "nil for all values", leaf.Node{Keys: lists("a", "b"), Vals: make([][]byte, 2)}, api.OK)
}

func TestCounts(t *testing.T) { // P16.1, P16.2: as many values, or children, as keys, and nothing else
	kid := block(7, 1, 513)
	for keys := range 5 {
		for vals := range 6 {
			for kids := range 6 {
				n := leaf.Node{Keys: lists("a", "b", "c", "d")[:keys], Vals: lists("1", "2", "3", "4", "5")[:vals]}
				for range kids {
					n.Kids = append(n.Kids, kid)
				}
				valued, parent := api.ErrArg, api.ErrArg
				if keys > 0 && vals == keys && kids == 0 {
					valued = api.OK
				}
				if keys > 0 && kids == keys && vals == 0 {
					parent = api.OK
				}
				puts(t, fmt.Sprintf("%d keys, %d values, %d children", keys, vals, kids), n, valued)
				for _, level := range []int{1, 2, levels} {
					n.Level = level
					puts(t, fmt.Sprintf("%d keys, %d values, %d children", keys, vals, kids), n, parent)
				}
			}
		}
	}
}

func TestChildren(t *testing.T) { // P16.1, P16.2
	fit := block(7, 1, 513)
	for level := 1; level <= levels; level++ {
		for _, p := range fitBlocks() {
			puts(t, fmt.Sprintf("a child %+v", p), leaf.Node{Level: level, Keys: lists("a", "b"), Kids: []api.Pointer{fit, p}}, api.OK)
		}
		for _, p := range unfitBlocks() {
			what := fmt.Sprintf("a child %+v", p)
			puts(t, what, leaf.Node{Level: level, Keys: lists("a"), Kids: []api.Pointer{p}}, api.ErrArg)
			for at := range 3 {
				kids := []api.Pointer{fit, fit, fit}
				kids[at] = p
				puts(t, what, leaf.Node{Level: level, Keys: lists("a", "b", "c"), Kids: kids}, api.ErrArg)
			}
		}
	}
	for _, p := range []api.Pointer{{}, fit} {
		puts(t, "a child at level 0", leaf.Node{Keys: lists("a"), Vals: lists("1"), Kids: []api.Pointer{p}}, api.ErrArg)
	}
}

// wrongs answers a right node, or one that has too many bytes, with one thing wrong in each.
func wrongs(n leaf.Node) map[string]leaf.Node {
	l := map[string]leaf.Node{}
	with := func(what string, change func(n *leaf.Node)) {
		c := copied(n)
		change(&c)
		l[what] = c
	}
	last := len(n.Keys) - 1
	with("a level below 0", func(n *leaf.Node) { n.Level = -1 })
	with("a level too high", func(n *leaf.Node) { n.Level = levels + 1 })
	with("the last key as the one ahead", func(n *leaf.Node) { n.Keys[last] = bytes.Clone(n.Keys[last-1]) })
	with("the last key empty", func(n *leaf.Node) { n.Keys[last] = nil })
	with("the last key too long", func(n *leaf.Node) { n.Keys[last] = append(n.Keys[last], make([]byte, maxKey)...) })
	with("the first key above all", func(n *leaf.Node) { n.Keys[0] = bytes.Repeat([]byte{0xff}, maxKey) })
	with("no keys", func(n *leaf.Node) { n.Keys = nil })
	with("a key less", func(n *leaf.Node) { n.Keys = n.Keys[:last] })
	with("a key more", func(n *leaf.Node) { n.Keys = append(n.Keys, bytes.Repeat([]byte{0xff}, maxKey)) })
	if n.Level == 0 {
		with("the level of children", func(n *leaf.Node) { n.Level = 1 })
		with("a value less", func(n *leaf.Node) { n.Vals = n.Vals[:last] })
		with("a value more", func(n *leaf.Node) { n.Vals = append(n.Vals, nil) })
		with("a child", func(n *leaf.Node) { n.Kids = append(n.Kids, block(7, 1, 513)) })
		with("as many children", func(n *leaf.Node) {
			for range n.Keys {
				n.Kids = append(n.Kids, block(7, 1, 513))
			}
		})
		with("the last value too long", func(n *leaf.Node) { n.Vals[last] = make([]byte, maxValue+1) })
		with("the first value too long", func(n *leaf.Node) { n.Vals[0] = make([]byte, maxValue+1) })
		return l
	}
	with("the level of values", func(n *leaf.Node) { n.Level = 0 })
	with("a child less", func(n *leaf.Node) { n.Kids = n.Kids[:last] })
	with("a child more", func(n *leaf.Node) { n.Kids = append(n.Kids, n.Kids[0]) })
	with("a value", func(n *leaf.Node) { n.Vals = append(n.Vals, nil) })
	with("as many values", func(n *leaf.Node) { n.Vals = make([][]byte, len(n.Keys)) })
	with("the last child none", func(n *leaf.Node) { n.Kids[last] = api.Pointer{} })
	with("the first child none", func(n *leaf.Node) { n.Kids[0] = api.Pointer{} })
	with("the last child wrong", func(n *leaf.Node) { n.Kids[last].At = 1 })
	return l
}

func TestMost(t *testing.T) { // P16.1, P16.2, P16.3: bytes at the limit, and one beyond; of what is wrong besides ErrArg is told
	for level := range levels + 1 {
		for _, keys := range fillings(level) {
			what := fmt.Sprintf("%d keys", keys)
			puts(t, what+", one byte fewer than may be", filled(t, level, keys, most-1), api.OK)
			puts(t, what+", as many bytes as may be", filled(t, level, keys, most), api.OK)
			beyond := filled(t, level, keys, most+1)
			puts(t, what+", one byte more than may be", beyond, api.ErrBig)
			reads(t, what+", one byte more than may be", plainBytes(beyond), api.ErrForm)
			for wrong, n := range wrongs(beyond) {
				puts(t, what+", one byte more than may be, and "+wrong, n, api.ErrArg)
			}
			for wrong, n := range wrongs(filled(t, level, keys, most)) {
				puts(t, what+", as many bytes as may be, and "+wrong, n, api.ErrArg)
			}
		}
	}
	for level := range levels + 1 {
		for wrong, n := range wrongs(node(level, "a", "ab", "b")) {
			puts(t, "few bytes, and "+wrong, n, api.ErrArg)
		}
	}
}

func TestMostOfCommonKeys(t *testing.T) { // P16.2: the bytes count, not the Weights
	weights := func(n leaf.Node) (sum int) {
		for i, key := range n.Keys {
			var val []byte
			if n.Level == 0 {
				val = n.Vals[i]
			}
			sum += leaf.Weight(key, val, n.Level > 0)
		}
		return sum
	}
	for level := range levels + 1 {
		n := node(level, keyLists()["many long ones"]...)
		if w := weights(n); w <= most {
			t.Fatalf("the Weights are only %d", w)
		}
		puts(t, "long keys that begin alike", n, api.OK)
	}
	n := leaf.Node{}
	for i := range 30 { // the same, as keys that have nothing in common
		n.Keys = append(n.Keys, append([]byte{byte(i)}, make([]byte, maxKey-1)...))
		n.Vals = append(n.Vals, nil)
	}
	puts(t, "long keys that do not", n, api.ErrBig)
}

func TestHugeNodes(t *testing.T) { // P16.2: they end soon, whatever else they are
	n := leaf.Node{}
	for i := range 300000 {
		n.Keys = append(n.Keys, binary.BigEndian.AppendUint32(nil, uint32(i)))
		n.Vals = append(n.Vals, []byte("v"))
	}
	last := len(n.Keys) - 1
	for _, c := range []struct {
		what   string
		change func(n *leaf.Node)
		e      api.Errno
	}{
		{"right but for the bytes", func(n *leaf.Node) {}, api.ErrBig},
		{"the last key twice", func(n *leaf.Node) { n.Keys[last] = n.Keys[last-1] }, api.ErrArg},
		{"the last key too long", func(n *leaf.Node) { n.Keys[last] = bytes.Repeat([]byte{0xff}, maxKey+1) }, api.ErrArg},
		{"the last value too long", func(n *leaf.Node) { n.Vals[last] = make([]byte, maxValue+1) }, api.ErrArg},
		{"a value less", func(n *leaf.Node) { n.Vals = n.Vals[:last] }, api.ErrArg},
		{"a level without values", func(n *leaf.Node) { n.Level = 1 }, api.ErrArg},
		{"a level too high", func(n *leaf.Node) { n.Level = 13 }, api.ErrArg},
	} {
		huge := leaf.Node{Keys: slices.Clone(n.Keys), Vals: slices.Clone(n.Vals)}
		c.change(&huge)
		if b, e := leaf.Put(huge); len(b) > 0 || e != c.e {
			t.Errorf("%s: Put of a huge node = %d bytes, %d, want %d", c.what, len(b), int(e), int(c.e))
		}
		if leaf.Right(huge) {
			t.Errorf("%s: a huge node is Right", c.what)
		}
	}
	huge := leaf.Node{Level: 1, Keys: n.Keys, Kids: make([]api.Pointer, len(n.Keys))}
	for i := range huge.Kids {
		huge.Kids[i] = block(7, 1, 513)
	}
	if b, e := leaf.Put(huge); len(b) > 0 || e != api.ErrBig {
		t.Errorf("Put of a huge node with children = %d bytes, %d", len(b), int(e))
	}
	huge.Kids[last].Birth = 0
	if b, e := leaf.Put(huge); len(b) > 0 || e != api.ErrArg {
		t.Errorf("Put of a huge node with a wrong child = %d bytes, %d", len(b), int(e))
	}
}

func TestPutMemory(t *testing.T) { // P16.2: what is told is memory of its own
	for _, n := range rights() {
		kept := copied(n)
		one, _ := leaf.Put(n)
		other, _ := leaf.Put(n)
		for i := range one[:cap(one)] {
			one[:cap(one)][i] ^= 0x55
		}
		if !same(n, kept) || !bytes.Equal(other, plainBytes(kept)) {
			t.Fatalf("the bytes of %s are memory that something else has", brief(kept))
		}
	}
}

func TestReadMemory(t *testing.T) { // P16.3: all that is told is memory of its own
	for _, n := range append(rights(), filled(t, 0, 1000, most), filled(t, 3, 74, most)) {
		b := plainBytes(n)
		got, e := leaf.Read(b)
		again, _ := leaf.Read(b)
		if e != api.OK {
			t.Fatalf("Read of %s = %d", brief(n), int(e))
		}
		for i := range b {
			b[i] ^= 0x55
		}
		if !same(got, n) {
			t.Fatalf("%s shares memory with what was handed in", brief(n))
		}
		// Each text is filled, up to its spare room, with a number of its own, which none may have lost then.
		texts := slices.Concat(got.Keys, got.Vals)
		for i, s := range texts {
			for at := range s[:cap(s)] {
				s[:cap(s)][at] = byte(i)
			}
		}
		for i, s := range texts {
			if slices.ContainsFunc(s[:cap(s)], func(c byte) bool { return c != byte(i) }) {
				t.Fatalf("two texts of %s share memory", brief(n))
			}
		}
		keys, vals := got.Keys[:cap(got.Keys)], got.Vals[:cap(got.Vals)]
		for i := range keys {
			keys[i] = []byte("k")
		}
		for i := range vals {
			if vals[i] != nil && string(vals[i]) == "k" {
				t.Fatalf("two lists of %s share memory", brief(n))
			}
		}
		if !same(again, n) {
			t.Fatalf("two answers of %s share memory", brief(n))
		}
	}
}

// one answers the bytes of a node of one key, whose parts are given as they stand.
func one(level, many, begun, key, rest string) []byte {
	return []byte(level + many + begun + key + rest)
}

func TestReadByHand(t *testing.T) { // P16.3
	p := string(plainPointer(block(7, 1, 513)))
	long := strings.Repeat("l", maxKey)
	tooLong := strings.Repeat("v", maxValue+1)
	for what, c := range map[string]struct {
		b string
		e api.Errno
	}{
		"a right one":                            {"\x00\x01\x00\x01a\x01v", api.OK},
		"a right one, all empty":                 {"\x00\x01\x00\x00\x00", api.OK},
		"a right one with a child":               {"\x01\x01\x00\x01a" + p, api.OK},
		"a right one of the highest level":       {"\x0c\x01\x00\x01a" + p, api.OK},
		"a right one of the longest key":         {"\x00\x01\x00\xa0\x01" + long + "\x00", api.OK},
		"a right one of the longest value":       {"\x00\x01\x00\x00\x80\x08" + tooLong[1:], api.OK},
		"a right one with all of the key ahead":  {"\x00\x02\x00\x01a\x00\x01\x01b\x00", api.OK},
		"a right one with something of it":       {"\x00\x02\x00\x02ab\x00\x01\x01c\x00", api.OK},
		"no bytes":                               {"", api.ErrForm},
		"a level alone":                          {"\x00", api.ErrForm},
		"no keys":                                {"\x00\x00", api.ErrForm},
		"no keys at a higher level":              {"\x01\x00", api.ErrForm},
		"no keys, and an entry":                  {"\x00\x00\x00\x01a\x01v", api.ErrForm},
		"a level too high":                       {"\x0d\x01\x00\x01a" + p, api.ErrForm},
		"a level too high, with a value":         {"\x0d\x01\x00\x01a\x01v", api.ErrForm},
		"a level of 2^32":                        {"\x80\x80\x80\x80\x10\x01\x00\x01a\x01v", api.ErrForm},
		"a level of 2^63":                        {"\x80\x80\x80\x80\x80\x80\x80\x80\x80\x01\x01\x00\x01a\x01v", api.ErrForm},
		"a level of 2^63 + 1, with a child":      {"\x81\x80\x80\x80\x80\x80\x80\x80\x80\x01\x01\x00\x01a" + p, api.ErrForm},
		"a level of 2^64 - 1":                    {"\xff\xff\xff\xff\xff\xff\xff\xff\xff\x01\x01\x00\x01a\x01v", api.ErrForm},
		"a level of 2^64":                        {"\x80\x80\x80\x80\x80\x80\x80\x80\x80\x02\x01\x00\x01a\x01v", api.ErrForm},
		"a level in two bytes":                   {"\x80\x00\x01\x00\x01a\x01v", api.ErrForm},
		"a level of 1 in two bytes":              {"\x81\x00\x01\x00\x01a" + p, api.ErrForm},
		"a level that does not end":              {"\x80", api.ErrForm},
		"a level with a value":                   {"\x01\x01\x00\x01a\x01v", api.ErrForm},
		"a level 0 with a child":                 {"\x00\x01\x00\x01a" + p, api.ErrForm},
		"a key too few":                          {"\x00\x02\x00\x01a\x01v", api.ErrForm},
		"a key too many":                         {"\x00\x01\x00\x01a\x01v\x00\x01b\x01v", api.ErrForm},
		"keys in two bytes":                      {"\x00\x81\x00\x00\x01a\x01v", api.ErrForm},
		"2^32 keys":                              {"\x00\x80\x80\x80\x80\x10\x00\x01a\x01v", api.ErrForm},
		"2^32 + 1 keys":                          {"\x00\x81\x80\x80\x80\x10\x00\x01a\x01v", api.ErrForm},
		"2^63 keys":                              {"\x00\x80\x80\x80\x80\x80\x80\x80\x80\x80\x01\x00\x01a\x01v", api.ErrForm},
		"2^64 - 1 keys":                          {"\x00\xff\xff\xff\xff\xff\xff\xff\xff\xff\x01\x00\x01a\x01v", api.ErrForm},
		"2^64 keys":                              {"\x00\x80\x80\x80\x80\x80\x80\x80\x80\x80\x02\x00\x01a\x01v", api.ErrForm},
		"2^64 - 1 keys and nothing":              {"\x00\xff\xff\xff\xff\xff\xff\xff\xff\xff\x01", api.ErrForm},
		"a first key with a beginning":           {"\x00\x01\x01\x01a\x01v", api.ErrForm},
		"an empty first key with a beginning":    {"\x00\x01\x01\x00\x01v", api.ErrForm},
		"a beginning of 2^63":                    {"\x00\x01\x80\x80\x80\x80\x80\x80\x80\x80\x80\x01\x01a\x01v", api.ErrForm},
		"a beginning of 2^64 - 1":                {"\x00\x02\x00\x01a\x01v\xff\xff\xff\xff\xff\xff\xff\xff\xff\x01\x01a\x01v", api.ErrForm},
		"a beginning in two bytes":               {"\x00\x01\x80\x00\x01a\x01v", api.ErrForm},
		"a second beginning in two bytes":        {"\x00\x02\x00\x01a\x00\x81\x00\x01b\x00", api.ErrForm},
		"a beginning one too long":               {"\x00\x02\x00\x01a\x00\x02\x01b\x00", api.ErrForm},
		"a beginning one too short":              {"\x00\x02\x00\x02ab\x00\x01\x02bc\x00", api.ErrForm},
		"a beginning of nothing in the place":    {"\x00\x02\x00\x01a\x00\x00\x02ab\x00", api.ErrForm},
		"a beginning of a key, and not more":     {"\x00\x02\x00\x02ab\x00\x01\x00\x00", api.ErrForm},
		"the key ahead, and not more":            {"\x00\x02\x00\x01a\x00\x01\x00\x00", api.ErrForm},
		"an empty key behind another":            {"\x00\x02\x00\x01a\x00\x00\x00\x00", api.ErrForm},
		"two empty keys":                         {"\x00\x02\x00\x00\x00\x00\x00\x00", api.ErrForm},
		"keys that fall":                         {"\x00\x02\x00\x01b\x00\x00\x01a\x00", api.ErrForm},
		"keys that fall further on":              {"\x00\x02\x00\x02ab\x00\x01\x01a\x00", api.ErrForm},
		"keys that fall from a byte above 127":   {"\x00\x02\x00\x01\x80\x00\x00\x01\x7f\x00", api.ErrForm},
		"a key too long":                         {"\x00\x01\x00\xa1\x01" + long + "l\x00", api.ErrForm},
		"a key too long by its beginning":        {"\x00\x02\x00\xa0\x01" + long + "\x00\xa0\x01\x01l\x00", api.ErrForm},
		"a key's length in more bytes":           {"\x00\x01\x00\x81\x00a\x01v", api.ErrForm},
		"a key's length without it":              {"\x00\x01\x00\x05a\x01v", api.ErrForm},
		"a key's length of 2^64 - 1":             {"\x00\x01\x00\xff\xff\xff\xff\xff\xff\xff\xff\xff\x01a\x01v", api.ErrForm},
		"a value too long":                       {"\x00\x01\x00\x00\x81\x08" + tooLong, api.ErrForm},
		"a value's length in more bytes":         {"\x00\x01\x00\x01a\x81\x00v", api.ErrForm},
		"an empty value's length in two bytes":   {"\x00\x01\x00\x01a\x80\x00", api.ErrForm},
		"a value's length without it":            {"\x00\x01\x00\x01a\x02v", api.ErrForm},
		"a value's length of 2^63":               {"\x00\x01\x00\x01a\x80\x80\x80\x80\x80\x80\x80\x80\x80\x01v", api.ErrForm},
		"a byte behind":                          {"\x00\x01\x00\x01a\x01v\x00", api.ErrForm},
		"a byte behind a child":                  {"\x01\x01\x00\x01a" + p + "\x00", api.ErrForm},
		"a child less a byte":                    {"\x01\x01\x00\x01a" + p[:51], api.ErrForm},
		"a child less":                           {"\x01\x01\x00\x01a", api.ErrForm},
		"a node twice":                           {"\x00\x01\x00\x01a\x01v\x00\x01\x00\x01a\x01v", api.ErrForm},
		"the first key's beginning in the place": {"\x00\x02\x01\x01a\x00\x00\x01b\x00", api.ErrForm},
	} {
		reads(t, what, []byte(c.b), c.e)
	}
	reads(t, "nil", nil, api.ErrForm)
	if n, e := leaf.Read(nil); !zero(n) || e != api.ErrForm {
		t.Errorf("Read(nil) = %s, %d", brief(n), int(e))
	}
}

func TestReadChildren(t *testing.T) { // P16.3: a child that is not right, also where pointer.Read tells it
	for level := 1; level <= levels; level++ {
		for _, p := range unfitBlocks() {
			fit := plainPointer(block(7, 1, 513))
			b := one(string([]byte{byte(level)}), "\x01", "\x00", "\x01a", string(plainPointer(p)))
			two := slices.Concat([]byte{byte(level), 2, 0, 1, 'a'}, fit, []byte{0, 1, 'b'}, plainPointer(p))
			// Of numbers that four bytes do not hold others are laid, which may be right.
			judged(t, "a child", b)
			judged(t, "a second child", two)
			if p.At>>32 == 0 && p.Length>>32 == 0 {
				reads(t, fmt.Sprintf("a child %+v", p), b, api.ErrForm)
				reads(t, fmt.Sprintf("a second child %+v", p), two, api.ErrForm)
			}
		}
		for _, p := range fitBlocks() {
			reads(t, fmt.Sprintf("a child %+v", p), one(string([]byte{byte(level)}), "\x01", "\x00", "\x01a", string(plainPointer(p))), api.OK)
		}
	}
}

// few answers right nodes of all levels, but of those between only the short ones, and the longest of two levels alone: there is much to be gone over.
func few() []leaf.Node {
	return slices.DeleteFunc(rights(), func(n leaf.Node) bool {
		return n.Level > 1 && (len(n.Keys) > 10 || n.Level < levels && len(n.Keys[0]) > 0)
	})
}

func TestReadOfLessAndMore(t *testing.T) { // P16.3: a byte less at each length, and a byte more
	for _, n := range append(few(), filled(t, 0, 1000, most), filled(t, 0, 5, most-1), filled(t, 12, 20, most)) {
		b := plainBytes(n)
		for size := range b {
			if got, e := leaf.Read(b[:size]); !zero(got) || e != api.ErrForm {
				t.Fatalf("Read of the first %d of %x = %s, %d", size, b, brief(got), int(e))
			}
		}
		for c := range 256 {
			if got, e := leaf.Read(append(slices.Clip(b), byte(c))); !zero(got) || e != api.ErrForm {
				t.Fatalf("Read of %x and %02x = %s, %d", b, c, brief(got), int(e))
			}
		}
		judged(t, "zeros behind", append(slices.Clip(b), make([]byte, 60)...))
		judged(t, "the same behind", slices.Concat(b, b))
		for at := range b { // and a byte that is left out, or stands twice
			judged(t, "a byte left out", slices.Delete(slices.Clone(b), at, at+1))
			judged(t, "a byte twice", slices.Insert(slices.Clone(b), at, b[at]))
		}
	}
}

func TestReadOfOtherBytes(t *testing.T) { // P16.3: each byte turned to each other one
	for _, n := range few() {
		b := plainBytes(n)
		for at := range b {
			was := b[at]
			for c := range 256 {
				// Of longer nodes the single bits are enough, of the longest two of them, and zeros.
				turned := was ^ byte(c)
				single := turned&(turned-1) == 0
				if c > 0 && (len(b) > 80 && !single || len(b) > 400 && turned != 1 && turned != 128) {
					continue
				}
				b[at] = byte(c)
				judged(t, "a byte turned", b)
			}
			b[at] = was
		}
	}
}

func TestReadOfShortTexts(t *testing.T) { // P16.3: all texts of a few bytes
	signs := []byte{0, 1, 2, 3, 'a', 0x80, 0xff}
	found := 0
	var goOn func(b []byte)
	goOn = func(b []byte) {
		judged(t, "a short text", b)
		if n, e := leaf.Read(b); e == api.OK && len(n.Keys) > 0 {
			found++
		}
		if len(b) == 7 {
			return
		}
		for _, c := range signs {
			goOn(append(slices.Clip(b), c))
		}
	}
	goOn(nil)
	if found < 50 {
		t.Errorf("only %d texts are nodes", found)
	}
}

func TestReadOfParts(t *testing.T) { // P16.3: entries made of all kinds of parts, right and wrong, at level 0 and above
	p := string(plainPointer(block(7, 1, 513)))
	none := string(make([]byte, pointerSize))
	begun := []string{"\x00", "\x01", "\x02", "\x03", "\x80\x00", "\x81\x00", "\xff\x01"}
	texts := []string{"\x00", "\x01a", "\x01b", "\x02ab", "\x02ba", "\x01\xff", "\x81\x00a"}
	found := 0
	for _, level := range []string{"\x00", "\x01", "\x0c", "\x0d", "\x80\x00"} {
		ends := []string{"\x00", "\x01v"}
		if level[0] != 0 {
			ends = []string{p, none}
		}
		var entries []string
		for _, a := range begun {
			for _, b := range texts {
				for _, c := range ends {
					entries = append(entries, a+b+c)
				}
			}
		}
		for _, many := range []string{"\x00", "\x01", "\x02", "\x03", "\x82\x00"} {
			for _, x := range entries {
				judged(t, "an entry", []byte(level+many+x))
				for _, y := range entries {
					b := []byte(level + many + x + y)
					judged(t, "two entries", b)
					if n, e := leaf.Read(b); e == api.OK && len(n.Keys) == 2 {
						found++
					}
				}
			}
		}
		for i, x := range entries { // three, of some kinds
			for j, y := range entries {
				for k, z := range entries {
					if (i+j+k)%3 == 0 && i%5 == 0 {
						judged(t, "three entries", []byte(level+"\x03"+x+y+z))
					}
				}
			}
		}
	}
	if found < 30 {
		t.Errorf("only %d texts are nodes of two keys", found)
	}
}

func TestReadOfManyBytes(t *testing.T) { // P16.3: they end soon
	for _, size := range []int{most + 1, 2 * most, 1 << 16, 1 << 24} {
		for _, fill := range []byte{0, 1, 0x7f, 0x80, 0xff} {
			b := bytes.Repeat([]byte{fill}, size)
			reads(t, fmt.Sprintf("%d bytes", size), b, api.ErrForm)
			reads(t, fmt.Sprintf("a node and %d bytes", size), append([]byte("\x00\x01\x00\x01a\x01v"), b...), api.ErrForm)
			reads(t, fmt.Sprintf("many keys and %d bytes", size), append([]byte("\x00\xff\xff\xff\xff\xff\xff\xff\xff\xff\x01"), b...), api.ErrForm)
		}
	}
	// Of a key that each key goes on there are as many bytes as may be.
	b := []byte("\x00\xff\xff\x03")
	for i := 0; len(b)+8 < most; i++ {
		b = append(binary.AppendUvarint(b, uint64(i)), "\x01a\x00"...)
	}
	reads(t, "keys that grow", b, api.ErrForm)
}

func TestRandomChanges(t *testing.T) { // P16.3, P16.5: right nodes with a few bytes changed, taken out and put in
	seed := uint64(1)
	next := func(n int) int {
		seed = seed*6364136223846793005 + 1442695040888963407
		return int(seed >> 33 % uint64(n))
	}
	all := rights()
	for range 200000 {
		b := plainBytes(all[next(len(all))])
		for range 1 + next(3) {
			at := next(len(b))
			switch next(4) {
			case 0:
				b[at] = byte(next(256))
			case 1:
				b = slices.Delete(b, at, at+1)
			case 2:
				b = slices.Insert(b, at, byte(next(256)))
			case 3:
				b[at] = byte(next(4))
			}
			if len(b) == 0 {
				break
			}
		}
		judged(t, "changes", b)
	}
}

func TestOneForm(t *testing.T) { // P16.5: nodes that are others have other bytes
	seen := map[string]leaf.Node{}
	for _, n := range append(rights(), filled(t, 0, 400, most), filled(t, 0, 400, most-1), filled(t, 1, 60, most)) {
		b, e := leaf.Put(n)
		if e != api.OK {
			t.Fatalf("Put of %s = %d", brief(n), int(e))
		}
		if other, ok := seen[string(b)]; ok && !same(n, other) {
			t.Errorf("%s and %s have the same bytes", brief(n), brief(other))
		}
		seen[string(b)] = n
	}
	a := leaf.Node{Keys: [][]byte{nil, []byte("a")}, Vals: [][]byte{{}, nil}}
	b := leaf.Node{Keys: [][]byte{{}, []byte("a")}, Vals: [][]byte{nil, {}}, Kids: []api.Pointer{}}
	x, _ := leaf.Put(a)
	if y, _ := leaf.Put(b); !bytes.Equal(x, y) || len(x) == 0 {
		t.Errorf("nil and empty are laid as %x and %x", x, y)
	}
}

func TestWeights(t *testing.T) { // P16.5: with keys apart the bytes are at most 4, and the Weights of all; with others no more
	nodes := rights()
	for level := range levels + 1 {
		for _, keys := range fillings(level) {
			nodes = append(nodes, filled(t, level, keys, most))
		}
	}
	apart := 0
	for _, n := range nodes {
		b, e := leaf.Put(n)
		sum, common := 0, 0
		for i, key := range n.Keys {
			if i > 0 {
				common += begins(n.Keys[i-1], key)
			}
			if n.Level == 0 {
				sum += leaf.Weight(key, n.Vals[i], false)
			} else {
				sum += leaf.Weight(key, nil, true)
			}
		}
		if e != api.OK || len(b) > sum+4 {
			t.Errorf("%s has %d bytes, %d; the Weights are %d", brief(n), len(b), int(e), sum)
		}
		if common > 0 {
			continue
		}
		apart++
		head := 2
		if len(n.Keys) > 127 {
			head = 3
		}
		if len(b) != head+sum {
			t.Errorf("%s has %d bytes, the Weights are %d, and its keys have nothing in common", brief(n), len(b), sum)
		}
	}
	if apart < 100 {
		t.Errorf("only %d nodes have keys with nothing in common", apart)
	}
}

// finds asks Find by going over all keys, and that the node is left as it was.
func finds(t *testing.T, n leaf.Node, key []byte) {
	t.Helper()
	want := -1
	for i, k := range n.Keys {
		if string(k) <= string(key) {
			want = i
		}
	}
	if got := leaf.Find(n, key); got != want {
		t.Fatalf("Find of %q in %s = %d, want %d", key, brief(n), got, want)
	}
}

func TestFind(t *testing.T) { // P16.4: by hand
	n := node(0, "b", "bb", "d", "\x80")
	for key, want := range map[string]int{"": -1, "\x00": -1, "a": -1, "azzz": -1, "b": 0, "b\x00": 0, "ba": 0, "bb": 1, "bb\x00": 1, "c": 1,
		"cz": 1, "d": 2, "e": 2, "\x7f": 2, "\x7f\xff": 2, "\x80": 3, "\x80\x00": 3, "\x81": 3, "\xff": 3, strings.Repeat("\xff", 5000): 3, strings.Repeat("a", 5000): -1} {
		if got := leaf.Find(n, []byte(key)); got != want {
			t.Errorf("Find(%.9q) = %d, want %d", key, got, want)
		}
	}
	for level := range levels + 1 {
		for what, keys := range map[string][]string{"no keys": nil, "no keys, not nil": {}} {
			for _, key := range []string{"", "a", "\xff"} {
				if got := leaf.Find(node(level, keys...), []byte(key)); got != -1 {
					t.Errorf("Find of %q with %s = %d", key, what, got)
				}
			}
		}
		empty := node(level, "")
		for _, key := range []string{"", "\x00", "a"} {
			if got := leaf.Find(empty, []byte(key)); got != 0 {
				t.Errorf("Find of %q with an empty key = %d", key, got)
			}
		}
		if got := leaf.Find(empty, nil); got != 0 {
			t.Errorf("Find of nil with an empty key = %d", got)
		}
		if got := leaf.Find(node(level, "a"), nil); got != -1 {
			t.Errorf("Find of nil = %d", got)
		}
	}
}

func TestFindAll(t *testing.T) { // P16.4: all sets of some keys, and all of these, and some beside them
	var keys [][]byte
	signs := []string{"", "\x00", "a", "\xff"}
	for _, a := range signs[1:] {
		for _, b := range signs {
			keys = append(keys, []byte(a+b))
		}
	}
	keys = append(keys, nil)
	slices.SortFunc(keys, bytes.Compare)
	asked := slices.Concat(keys, lists("\x00\x00\x00", "\x01", "`", "a\xff\x00", "b", "\x80", "\xff\xff\xff"))
	for set := range 1 << len(keys) {
		n := leaf.Node{}
		for i, key := range keys {
			if set>>i&1 == 1 {
				n.Keys = append(n.Keys, key)
			}
		}
		for _, key := range asked {
			finds(t, n, key)
		}
	}
}

func TestFindInManyKeys(t *testing.T) { // P16.4: each key, what lies ahead of it, and what lies behind
	nodes := append(rights(), filled(t, 0, 1000, most), filled(t, 0, 128, most), filled(t, 5, 74, most))
	var long leaf.Node // of keys that rise, also where the node is not right
	for i := range 300 {
		long.Keys = append(long.Keys, append(bytes.Repeat([]byte("k"), 300), byte(i>>8), byte(i)))
	}
	nodes = append(nodes, long, leaf.Node{Level: -1, Keys: lists("a", "b")}, leaf.Node{Level: 99, Keys: lists("", "a", "b")})
	for _, n := range nodes {
		in, untouched := roomyNode(n)
		finds(t, in, nil)
		for i, key := range n.Keys {
			if got := leaf.Find(n, key); got != i {
				t.Fatalf("Find of the key %d of %s = %d", i, brief(n), got)
			}
			finds(t, in, append(slices.Clip(key), 0))
			finds(t, in, append(slices.Clip(key), 0xff))
			if len(key) > 0 {
				finds(t, in, key[:len(key)-1])
				less := bytes.Clone(key)
				less[len(less)-1]--
				finds(t, in, less)
			}
		}
		if !untouched() {
			t.Errorf("Find in %s changed it", brief(n))
		}
	}
	asked, untouched := roomy([]byte("key"))
	leaf.Find(nodes[0], asked)
	if !untouched() {
		t.Error("Find changed the key")
	}
}

func TestFindInOtherKeys(t *testing.T) { // P16.4: where they do not rise, it ends, and tells the last one, or 0
	keys := lists("", "a", "b", "c")
	for set := range 1024 {
		var n leaf.Node
		for i := range 5 {
			n.Keys = append(n.Keys, keys[set>>(2*i)&3])
		}
		for _, key := range lists("", "a", "aa", "b", "d") {
			want := -1
			for i, k := range n.Keys {
				if string(k) <= string(key) {
					want = i
				}
			}
			if got := leaf.Find(n, key); got != want && got != 0 {
				t.Fatalf("Find of %q in %q = %d, want %d, or 0", key, n.Keys, got, want)
			}
		}
	}
}
