package cow_test

import (
	"bytes"
	"crypto/sha256"
	"encoding/binary"
	"hash/crc32"
	"math"
	"slices"
	"testing"

	"shadowbox/alloc"
	"shadowbox/api"
	"shadowbox/cow"
	"shadowbox/disk"
	"shadowbox/extent"
	"shadowbox/leaf"
)

// The limits, as the document tells them.
const (
	size      = 512 // bytes of a sector
	mostBytes = 65536
	sectors   = 8192
	lastEpoch = 1 << 60
	maxKey    = 160
	maxValue  = 1024
	mostNode  = 4096
	levels    = 12
)

// made answers a pool of a disk of n sectors, of which those from 2 on are free, and so many are kept back.
func made(t testing.TB, n, reserve int) *cow.Pool {
	t.Helper()
	d, e := disk.New(n)
	if e != api.OK {
		t.Fatalf("disk.New(%d) = %v", n, e)
	}
	a, e := alloc.New(2, n, reserve)
	if e != api.OK {
		t.Fatalf("alloc.New(2, %d, %d) = %v", n, reserve, e)
	}
	return &cow.Pool{Disk: d, Alloc: a, Epoch: 1}
}

// full answers a text of n bytes, none of which is 0, that is another one for each seed from 0 to 250.
func full(n, seed int) []byte {
	b := make([]byte, n)
	for i := range b {
		b[i] = byte((i*7+seed)%251 + 1)
	}
	return b
}

// needs answers how many sectors n bytes take.
func needs(n int) int { return (n + size - 1) / size }

func span(p api.Pointer) extent.Span {
	return extent.Span{From: p.At, To: p.At + needs(p.Length)}
}

// of answers the pointer of bytes by sums that are not the program's.
func of(at, birth int, b []byte) api.Pointer {
	return api.Pointer{At: at, Birth: birth, Length: len(b), Crc: crc32.Checksum(b, crc32.MakeTable(crc32.Castagnoli)), Sha: sha256.Sum256(b)}
}

// lies tells what lies in the sectors of a block, sector by sector.
func lies(t testing.TB, d *disk.Disk, p api.Pointer) []byte {
	t.Helper()
	out := []byte{}
	for i := range needs(p.Length) {
		b, e := d.Read(p.At + i)
		if e != api.OK {
			t.Fatalf("the disk's Read(%d) = %v", p.At+i, e)
		}
		out = append(out, b...)
	}
	return out
}

// whole tells all sectors of a disk, side by side.
func whole(t testing.TB, d *disk.Disk) []byte {
	t.Helper()
	return lies(t, d, api.Pointer{Length: d.Len() * size})
}

// state is what a pool is, but for its disk's bytes.
type state struct {
	free    []extent.Span
	used    int
	waiting int
	epoch   int
	spare   bool
	killed  []api.Pointer
}

func stateOf(p *cow.Pool) state {
	return state{p.Alloc.Spans(), p.Alloc.Used(), p.Alloc.Waiting(), p.Epoch, p.Spare, slices.Clone(p.Killed)}
}

func (s state) same(o state) bool {
	return slices.Equal(s.free, o.free) && s.used == o.used && s.waiting == o.waiting && s.epoch == o.epoch && s.spare == o.spare && slices.Equal(s.killed, o.killed)
}

// unchanged runs a call, and asks whether the pool and its disk are as they were.
func unchanged(t *testing.T, what string, p *cow.Pool, call func()) {
	t.Helper()
	was, d, a := stateOf(p), p.Disk, p.Alloc
	bytesWere, waiting := whole(t, d), d.Waiting()
	call()
	if p.Disk != d || p.Alloc != a || !stateOf(p).same(was) {
		t.Errorf("%s: the pool was %v, is %v", what, was, stateOf(p))
	}
	if !bytes.Equal(whole(t, d), bytesWere) || d.Waiting() != waiting {
		t.Errorf("%s: the disk is another one", what)
	}
}

// lay lays bytes, which must be done.
func lay(t testing.TB, p *cow.Pool, b []byte) api.Pointer {
	t.Helper()
	at, e := p.Lay(b)
	if e != api.OK {
		t.Fatalf("Lay of %d bytes = %v", len(b), e)
	}
	return at
}

// node answers a node of level 0 of these keys; the value of each is it, and !.
func node(keys ...string) leaf.Node {
	n := leaf.Node{}
	for _, k := range keys {
		n.Keys, n.Vals = append(n.Keys, []byte(k)), append(n.Vals, []byte(k+"!"))
	}
	return n
}

// store lays a node, which must be done.
func store(t testing.TB, p *cow.Pool, n leaf.Node) api.Pointer {
	t.Helper()
	at, e := p.Store(n)
	if e != api.OK {
		t.Fatalf("Store(%v) = %v", n, e)
	}
	return at
}

// unfit answers pointers that are none, or not right: each field beyond its edges.
func unfit() []api.Pointer {
	l := []api.Pointer{{}, {Crc: 1}, {Sha: [32]byte{31: 1}}, {At: 7}, {Birth: 1}, {Length: 1}}
	for _, at := range []int{math.MinInt, -1, 0, 1, sectors - 1, sectors, 1<<32 + 7, math.MaxInt} {
		l = append(l, api.Pointer{At: at, Birth: 1, Length: 513})
	}
	for _, birth := range []int{math.MinInt, -1, 0, lastEpoch + 1, math.MaxInt} {
		l = append(l, api.Pointer{At: 7, Birth: birth, Length: 513})
	}
	for _, length := range []int{math.MinInt, -1, 0, mostBytes + 1, 1<<32 + 1, math.MaxInt} {
		l = append(l, api.Pointer{At: 7, Birth: 1, Length: length})
	}
	return l
}

// nones answers pools that are none, of all kinds.
func nones(t *testing.T) map[string]*cow.Pool {
	good := made(t, 64, 0)
	return map[string]*cow.Pool{
		"nil":               nil,
		"plain":             {},
		"no disk":           {Alloc: good.Alloc, Epoch: 1},
		"a plain disk":      {Disk: &disk.Disk{}, Alloc: good.Alloc, Epoch: 1},
		"no alloc":          {Disk: good.Disk, Epoch: 1},
		"a plain alloc":     {Disk: good.Disk, Alloc: &alloc.Alloc{}, Epoch: 1},
		"both plain":        {Disk: &disk.Disk{}, Alloc: &alloc.Alloc{}, Epoch: 1},
		"none, and killed":  {Epoch: 3, Spare: true, Killed: []api.Pointer{{At: 7, Birth: 1, Length: 1}}},
		"no disk, no epoch": {Alloc: good.Alloc},
	}
}

// TestNone: rule 1, of all calls, also with arguments that may not be.
func TestNone(t *testing.T) {
	good := api.Pointer{At: 7, Birth: 1, Length: 1}
	for what, p := range nones(t) {
		var was cow.Pool
		if p != nil {
			was = *p
		}
		for _, b := range [][]byte{nil, {}, {1}, full(600, 1), make([]byte, mostBytes+1)} {
			if at, e := p.Lay(b); at != (api.Pointer{}) || e != api.ErrNil {
				t.Errorf("%s: Lay of %d bytes = %v, %v", what, len(b), at, e)
			}
		}
		for _, at := range append(unfit(), good) {
			if e := p.Kill(at); e != api.ErrNil {
				t.Errorf("%s: Kill(%v) = %v", what, at, e)
			}
			if n, e := p.Load(at); e != api.ErrNil || n.Level != 0 || n.Keys != nil || n.Vals != nil || n.Kids != nil {
				t.Errorf("%s: Load(%v) = %v, %v", what, at, n, e)
			}
			for _, l := range [][]cow.Edit{nil, {}, {{Key: []byte("a")}}, {{Key: []byte("b")}, {Key: []byte("a")}}, {{Key: make([]byte, maxKey+1)}}} {
				if root, e := cow.Apply(p, at, l); root != (api.Pointer{}) || e != api.ErrNil {
					t.Errorf("%s: Apply(%v, %v) = %v, %v", what, at, l, root, e)
				}
			}
			if v, ok, e := cow.Get(p, at, []byte("a")); v != nil || ok || e != api.ErrNil {
				t.Errorf("%s: Get(%v) = %v, %v, %v", what, at, v, ok, e)
			}
		}
		for _, n := range []leaf.Node{{}, node("a"), node("b", "a"), {Level: 99}} {
			if at, e := p.Store(n); at != (api.Pointer{}) || e != api.ErrNil {
				t.Errorf("%s: Store(%v) = %v, %v", what, n, at, e)
			}
		}
		if p != nil && (p.Disk != was.Disk || p.Alloc != was.Alloc || p.Epoch != was.Epoch || p.Spare != was.Spare || !slices.Equal(p.Killed, was.Killed)) {
			t.Errorf("%s: the pool was %v, is %v", what, was, *p)
		}
		if p != nil && p.Alloc.Used() != 0 {
			t.Errorf("%s: %d sectors are in use", what, p.Alloc.Used())
		}
	}
}

func TestLay(t *testing.T) {
	for _, n := range []int{1, 2, 511, 512, 513, 1024, 1025, mostNode, 20000, mostBytes - 1, mostBytes} {
		for _, epoch := range []int{1, 2, 77, lastEpoch - 1, lastEpoch} {
			p := made(t, 200, 0)
			p.Epoch = epoch
			first := lay(t, p, []byte("first"))
			if want := of(2, epoch, []byte("first")); first != want {
				t.Errorf("the first one is %v, want %v", first, want)
			}
			b := full(n, 3)
			at, e := p.Lay(b)
			if want := of(3, epoch, b); e != api.OK || at != want {
				t.Errorf("Lay of %d bytes = %v, %v; want %v", n, at, e, want)
			}
			if got := lies(t, p.Disk, at); !bytes.Equal(got[:n], b) || !bytes.Equal(got[n:], make([]byte, len(got)-n)) {
				t.Errorf("Lay of %d bytes: others lie there", n)
			}
			if !bytes.Equal(b, full(n, 3)) {
				t.Errorf("Lay of %d bytes changed them", n)
			}
			if want := []extent.Span{{From: 3 + needs(n), To: 200}}; !slices.Equal(p.Alloc.Spans(), want) || p.Alloc.Waiting() != 0 {
				t.Errorf("Lay of %d bytes: free is %v, want %v", n, p.Alloc.Spans(), want)
			}
			if p.Epoch != epoch || p.Spare || len(p.Killed) != 0 {
				t.Errorf("Lay of %d bytes: the pool is %v", n, *p)
			}
			clear(b)
			if got := lies(t, p.Disk, at); !bytes.Equal(got[:n], full(n, 3)) {
				t.Errorf("Lay of %d bytes kept them", n)
			}
		}
	}
}

func TestLayErrArg(t *testing.T) {
	p := made(t, 200, 0)
	lay(t, p, full(700, 1))
	for _, b := range [][]byte{nil, {}, make([]byte, mostBytes+1), make([]byte, 3*mostBytes), make([]byte, 5, 10)[:0]} {
		unchanged(t, "Lay", p, func() {
			if at, e := p.Lay(b); at != (api.Pointer{}) || e != api.ErrArg {
				t.Errorf("Lay of %d bytes = %v, %v", len(b), at, e)
			}
		})
	}
	for _, epoch := range []int{0, -1, math.MinInt, lastEpoch + 1, math.MaxInt} {
		p.Epoch = epoch
		for _, b := range [][]byte{{1}, full(513, 1), nil} {
			unchanged(t, "Lay", p, func() {
				if at, e := p.Lay(b); at != (api.Pointer{}) || e != api.ErrArg {
					t.Errorf("Lay of %d bytes in the epoch %d = %v, %v", len(b), epoch, at, e)
				}
			})
		}
	}
	// Ahead of the room.
	tight := made(t, 3, 0)
	lay(t, tight, []byte{1})
	if _, e := tight.Lay(nil); e != api.ErrArg {
		t.Errorf("Lay of nothing without room = %v", e)
	}
	tight.Epoch = 0
	if _, e := tight.Lay([]byte{1}); e != api.ErrArg {
		t.Errorf("Lay in no epoch without room = %v", e)
	}
}

func TestLayNoRoom(t *testing.T) {
	fails := func(p *cow.Pool, n int, want api.Errno) {
		t.Helper()
		unchanged(t, "Lay", p, func() {
			if at, e := p.Lay(full(n, 1)); at != (api.Pointer{}) || e != want {
				t.Errorf("Lay of %d bytes = %v, %v; want %v", n, at, e, want)
			}
		})
	}
	p := made(t, 10, 3) // eight sectors, of which three are kept back
	lay(t, p, full(3*size, 1))
	fails(p, 3*size, api.ErrSpace) // two would be left
	fails(p, 2*size+1, api.ErrSpace)
	lay(t, p, full(2*size, 2))
	fails(p, 1, api.ErrSpace)
	p.Spare = true
	fails(p, 3*size+1, api.ErrSpace)
	lay(t, p, full(size, 3))
	lay(t, p, full(2*size, 4))
	fails(p, 1, api.ErrSpace)
	if p.Alloc.Free() != 0 || !p.Spare {
		t.Errorf("the pool is %v", *p)
	}

	// Two apart are not two side by side.
	p = made(t, 7, 0)
	l := []api.Pointer{}
	for i := range 5 {
		l = append(l, lay(t, p, full(size, i)))
	}
	for _, i := range []int{1, 3} {
		if e := p.Kill(l[i]); e != api.OK {
			t.Fatalf("Kill = %v", e)
		}
	}
	fails(p, size+1, api.ErrSpace)
	if at := lay(t, p, full(size, 7)); at.At != 3 {
		t.Errorf("Lay is at %d", at.At)
	}
}

// TestLayUndone: where the disk tells an error, the sectors are given back.
func TestLayUndone(t *testing.T) {
	for n := range 4 {
		p := made(t, 20, 0)
		first := lay(t, p, full(800, 1))
		p.Disk.Fuse(n)
		was := stateOf(p)
		if at, e := p.Lay(full(4*size, 2)); at != (api.Pointer{}) || e != api.ErrCut {
			t.Errorf("a fuse of %d: Lay = %v, %v", n, at, e)
		}
		if !stateOf(p).same(was) {
			t.Errorf("a fuse of %d: the pool was %v, is %v", n, was, stateOf(p))
		}
		if got := lies(t, p.Disk, first); !bytes.Equal(got[:800], full(800, 1)) {
			t.Errorf("a fuse of %d: the first block is another one", n)
		}
	}
	p := made(t, 20, 0)
	p.Disk.Fuse(4)
	lay(t, p, full(4*size, 2))

	// An alloc of sectors that no block may have, or that the disk has not.
	for _, from := range []int{0, 1, 17, 18, 30} {
		a, e := alloc.New(from, 40, 0)
		if e != api.OK {
			t.Fatal(e)
		}
		p := made(t, 20, 0)
		p.Alloc = a
		unchanged(t, "Lay beyond", p, func() {
			if at, e := p.Lay(full(4*size, 2)); at != (api.Pointer{}) || e != api.ErrArg {
				t.Errorf("from %d on: Lay = %v, %v", from, at, e)
			}
		})
	}
}

func TestKill(t *testing.T) {
	p := made(t, 200, 0)
	elder := lay(t, p, full(1300, 1))
	p.Epoch = 9
	younger := lay(t, p, full(600, 2))
	p.Epoch = 5
	now := lay(t, p, full(2000, 3))
	for _, at := range unfit() {
		unchanged(t, "Kill", p, func() {
			if e := p.Kill(at); e != api.ErrArg {
				t.Errorf("Kill(%v) = %v", at, e)
			}
		})
	}
	used := p.Alloc.Used()
	for i, at := range []api.Pointer{younger, elder, {At: 100, Birth: 4, Length: 9}, elder, {At: sectors - 1, Birth: lastEpoch, Length: size}, {At: 7, Birth: 6, Length: 1, Crc: 5}} {
		if e := p.Kill(at); e != api.OK || len(p.Killed) != i+1 || p.Killed[i] != at {
			t.Errorf("Kill(%v) = %v, killed are %v", at, e, p.Killed)
		}
	}
	if p.Alloc.Used() != used || p.Alloc.Waiting() != 0 || p.Epoch != 5 {
		t.Errorf("the pool is %v", *p)
	}
	killed := slices.Clone(p.Killed)
	if e := p.Kill(now); e != api.OK || !slices.Equal(p.Killed, killed) || p.Alloc.Used() != used-4 || p.Alloc.Waiting() != 0 {
		t.Errorf("Kill(%v) = %v, killed are %v", now, e, p.Killed)
	}
	if want := []extent.Span{{From: 7, To: 200}}; !slices.Equal(p.Alloc.Spans(), want) {
		t.Errorf("free is %v, want %v", p.Alloc.Spans(), want)
	}
	for _, x := range []struct {
		at   api.Pointer
		want api.Errno
	}{
		{now, api.ErrNone}, {api.Pointer{At: 6, Birth: 5, Length: 513}, api.ErrNone}, {api.Pointer{At: 199, Birth: 5, Length: 1}, api.ErrNone},
		{api.Pointer{At: 199, Birth: 5, Length: 513}, api.ErrArg}, {api.Pointer{At: 200, Birth: 5, Length: 1}, api.ErrArg},
	} {
		unchanged(t, "Kill", p, func() {
			if e := p.Kill(x.at); e != x.want {
				t.Errorf("Kill(%v) = %v, want %v", x.at, e, x.want)
			}
		})
	}
}

// TestKilledList: what lies behind the list's length, and lists that were taken, stay as they are.
func TestKilledList(t *testing.T) {
	p := made(t, 100, 0)
	mark := api.Pointer{At: 99, Birth: 99, Length: 99}
	set := []api.Pointer{{At: 5, Birth: 2, Length: 3}, mark, mark, mark}
	p.Killed = set[:1]
	a, b := api.Pointer{At: 6, Birth: 3, Length: 4}, api.Pointer{At: 8, Birth: 4, Length: 5}
	if e := p.Kill(a); e != api.OK {
		t.Fatal(e)
	}
	taken := p.Killed
	if e := p.Kill(b); e != api.OK {
		t.Fatal(e)
	}
	p.Killed = taken
	whole := p.Killed[:cap(p.Killed)]
	if e := p.Kill(mark); e != api.OK {
		t.Fatal(e)
	}
	if !slices.Equal(set[1:], []api.Pointer{mark, mark, mark}) || !slices.Equal(taken, []api.Pointer{set[0], a}) || !slices.Equal(p.Killed, []api.Pointer{set[0], a, mark}) {
		t.Errorf("set is %v, taken is %v, killed are %v", set, taken, p.Killed)
	}
	for _, x := range whole[2:] {
		if x != (api.Pointer{}) {
			t.Errorf("behind the list lies %v", x)
		}
	}
}

// plainUvarint takes a number of the shortest form.
func plainUvarint(b []byte) (uint64, []byte, bool) {
	x, used := binary.Uvarint(b)
	if used <= 0 || used > 1 && b[used-1] == 0 {
		return 0, nil, false
	}
	return x, b[used:], true
}

func plainText(b []byte, most uint64) ([]byte, []byte, bool) {
	n, rest, ok := plainUvarint(b)
	if !ok || n > most || n > uint64(len(rest)) {
		return nil, nil, false
	}
	return slices.Clone(rest[:n]), rest[n:], true
}

// plainRead tells the node of bytes, by the words of chapter 16.
func plainRead(b []byte) (n leaf.Node, ok bool) {
	if len(b) > mostNode {
		return n, false
	}
	level, b, ok1 := plainUvarint(b)
	count, b, ok2 := plainUvarint(b)
	if !ok1 || !ok2 || level > levels || count < 1 || count > mostNode {
		return n, false
	}
	n.Level = int(level)
	ahead := []byte{}
	for i := range int(count) {
		begun, rest, ok1 := plainUvarint(b)
		text, rest, ok2 := plainText(rest, maxKey)
		if !ok1 || !ok2 || begun > uint64(len(ahead)) {
			return n, false
		}
		key := slices.Concat(ahead[:begun], text)
		if len(key) > maxKey || i > 0 && bytes.Compare(ahead, key) >= 0 || int(begun) < len(ahead) && len(text) > 0 && ahead[begun] == text[0] {
			return n, false
		}
		n.Keys, ahead, b = append(n.Keys, key), key, rest
		if level == 0 {
			val, rest, ok := plainText(b, maxValue)
			if !ok {
				return n, false
			}
			n.Vals, b = append(n.Vals, val), rest
			continue
		}
		if len(b) < 52 {
			return n, false
		}
		p := api.Pointer{At: int(binary.LittleEndian.Uint32(b)), Length: int(binary.LittleEndian.Uint32(b[4:])), Birth: int(binary.LittleEndian.Uint64(b[8:])), Crc: binary.LittleEndian.Uint32(b[16:]), Sha: [32]byte(b[20:52])}
		if p.Birth < 1 || p.Birth > lastEpoch || p.Length < 1 || p.Length > mostBytes || p.At < 2 || p.At+needs(p.Length) > sectors {
			return n, false
		}
		n.Kids, b = append(n.Kids, p), b[52:]
	}
	return n, len(b) == 0
}

// plainLoad tells the node that lies at a pointer, by the words of the chapters.
func plainLoad(t testing.TB, d *disk.Disk, at api.Pointer) (leaf.Node, bool) {
	t.Helper()
	if at.At < 2 || at.Length < 1 || at.At+needs(at.Length) > d.Len() {
		return leaf.Node{}, false
	}
	b := lies(t, d, at)[:at.Length]
	if of(at.At, at.Birth, b) != at {
		return leaf.Node{}, false
	}
	return plainRead(b)
}

func sameNode(a, b leaf.Node) bool {
	return a.Level == b.Level && slices.EqualFunc(a.Keys, b.Keys, bytes.Equal) && slices.EqualFunc(a.Vals, b.Vals, bytes.Equal) && slices.Equal(a.Kids, b.Kids)
}

func TestLoadStore(t *testing.T) {
	p := made(t, 200, 0)
	kid := store(t, p, node("a", "ab", "b"))
	p.Epoch = 3
	big := leaf.Node{}
	for i := range 3 {
		big.Keys, big.Vals = append(big.Keys, full(maxKey, 10*i)), append(big.Vals, full(maxValue, i))
	}
	slices.SortFunc(big.Keys, bytes.Compare)
	for _, n := range []leaf.Node{
		node("a"), node(""), node("", "a", "b"), big,
		{Keys: [][]byte{[]byte("k")}, Vals: [][]byte{{}}},
		{Level: 1, Keys: [][]byte{[]byte("a")}, Kids: []api.Pointer{kid}},
		{Level: levels, Keys: [][]byte{{}, full(maxKey, 1)}, Kids: []api.Pointer{kid, {At: 9, Birth: 99, Length: 3}}},
	} {
		// The spare room of what is handed in is not written on.
		spare := append(append([]byte{}, n.Keys[0]...), "spare"...)
		n.Keys[0] = spare[:len(spare)-5]
		copied := leaf.Node{Level: n.Level, Kids: slices.Clone(n.Kids)}
		for _, k := range n.Keys {
			copied.Keys = append(copied.Keys, slices.Clone(k))
		}
		for _, v := range n.Vals {
			copied.Vals = append(copied.Vals, slices.Clone(v))
		}
		at := store(t, p, n)
		if !sameNode(n, copied) || string(spare[len(spare)-5:]) != "spare" {
			t.Errorf("Store changed %v to %v", copied, n)
		}
		if got, ok := plainLoad(t, p.Disk, at); !ok || !sameNode(got, n) || at.Birth != 3 {
			t.Errorf("Store(%v) = %v, there lies %v, %v", n, at, got, ok)
		}
		got, e := p.Load(at)
		if e != api.OK || !sameNode(got, n) {
			t.Errorf("Load of Store(%v) = %v, %v", n, got, e)
		}
		// What is handed out is new memory.
		for _, l := range [][][]byte{got.Keys, got.Vals} {
			for _, b := range l {
				b = b[:cap(b)]
				for i := range b {
					b[i] ^= 85
				}
			}
		}
		clear(got.Kids)
		if again, e := p.Load(at); e != api.OK || !sameNode(again, n) {
			t.Errorf("Load of Store(%v) once more = %v, %v", n, again, e)
		}
	}
}

func TestLoadErrors(t *testing.T) {
	p := made(t, 50, 0)
	good := store(t, p, node("a", "b"))
	for _, at := range append(unfit(), api.Pointer{At: 49, Birth: 1, Length: 513}, api.Pointer{At: 50, Birth: 1, Length: 1}, api.Pointer{At: sectors - 1, Birth: 1, Length: 1}) {
		unchanged(t, "Load", p, func() {
			if n, e := p.Load(at); e != api.ErrArg || !sameNode(n, leaf.Node{}) {
				t.Errorf("Load(%v) = %v, %v", at, n, e)
			}
		})
	}
	other := good
	other.Crc++
	for _, at := range []api.Pointer{other, {At: good.At, Birth: 1, Length: good.Length}, {At: 40, Birth: 1, Length: 30}} {
		if n, e := p.Load(at); e != api.ErrSum || !sameNode(n, leaf.Node{}) {
			t.Errorf("Load(%v) = %v, %v", at, n, e)
		}
	}
	long := make([]byte, mostNode+1)
	for _, b := range [][]byte{{0}, {0, 0}, {1}, {7, 7, 7}, full(700, 1), long, {0, 1, 0, 1, 'a', 0, 0}, {0, 2, 0, 1, 'b', 0, 0, 1, 'a', 0}, {0, 1, 1, 1, 'a', 0}, {0, 1, 0, 1, 'a'}} {
		at := lay(t, p, b)
		if n, e := p.Load(at); e != api.ErrForm || !sameNode(n, leaf.Node{}) {
			t.Errorf("Load of %x.. = %v, %v", b[:min(len(b), 10)], n, e)
		}
	}
	b := lies(t, p.Disk, good)
	b[3] ^= 4
	if e := p.Disk.Write(good.At, b); e != api.OK {
		t.Fatal(e)
	}
	if n, e := p.Load(good); e != api.ErrSum || !sameNode(n, leaf.Node{}) {
		t.Errorf("Load of a turned one = %v, %v", n, e)
	}
}

func TestStoreErrors(t *testing.T) {
	p := made(t, 50, 0)
	tooBig := leaf.Node{}
	for i := range 5 {
		tooBig.Keys, tooBig.Vals = append(tooBig.Keys, []byte{byte(i)}), append(tooBig.Vals, full(maxValue, i))
	}
	fails := func(n leaf.Node, want api.Errno) {
		t.Helper()
		unchanged(t, "Store", p, func() {
			if at, e := p.Store(n); at != (api.Pointer{}) || e != want {
				t.Errorf("Store(%v) = %v, %v; want %v", n, at, e, want)
			}
		})
	}
	wrong := []leaf.Node{
		{}, {Level: -1}, {Level: 13}, node("b", "a"), node("a", "a"), {Keys: [][]byte{{1}}}, {Vals: [][]byte{{1}}},
		{Keys: [][]byte{make([]byte, maxKey+1)}, Vals: [][]byte{{}}}, {Keys: [][]byte{{1}}, Vals: [][]byte{make([]byte, maxValue+1)}},
		{Level: 1, Keys: [][]byte{{1}}, Kids: []api.Pointer{{}}}, {Level: 1, Keys: [][]byte{{1}}, Vals: [][]byte{{1}}},
		{Level: math.MaxInt, Keys: [][]byte{{1}}, Vals: [][]byte{{1}}},
	}
	for _, n := range wrong {
		fails(n, api.ErrArg)
	}
	fails(tooBig, api.ErrBig)
	p.Epoch = 0
	fails(tooBig, api.ErrBig)
	fails(node("a"), api.ErrArg)
	p.Epoch = lastEpoch + 1
	fails(node("a"), api.ErrArg)
	p.Epoch = 1
	for range 48 {
		lay(t, p, []byte{1})
	}
	fails(node("a"), api.ErrSpace)
	fails(tooBig, api.ErrBig)
	fails(node("b", "a"), api.ErrArg)
}

func TestExample(t *testing.T) {
	p := made(t, 20, 0)
	root, e := cow.Apply(p, api.Pointer{}, []cow.Edit{{Key: []byte("a"), Val: []byte("1")}})
	want := []byte{0, 1, 0, 1, 'a', 1, '1'}
	if e != api.OK || root != of(2, 1, want) || !bytes.Equal(lies(t, p.Disk, root)[:7], want) || len(p.Killed) != 0 || p.Alloc.Used() != 1 {
		t.Errorf("Apply = %v, %v; there lies %x", root, e, lies(t, p.Disk, root)[:7])
	}
	if v, ok, e := cow.Get(p, root, []byte("a")); string(v) != "1" || !ok || e != api.OK {
		t.Errorf("Get = %s, %v, %v", v, ok, e)
	}
	p.Epoch = 2
	second, e := cow.Apply(p, root, []cow.Edit{{Key: []byte("a"), Gone: true}, {Key: []byte("b"), Val: []byte("2")}})
	if e != api.OK || second != of(3, 2, []byte{0, 1, 0, 1, 'b', 1, '2'}) || !slices.Equal(p.Killed, []api.Pointer{root}) {
		t.Errorf("Apply = %v, %v; killed are %v", second, e, p.Killed)
	}
	if v, ok, e := cow.Get(p, root, []byte("a")); string(v) != "1" || !ok || e != api.OK {
		t.Errorf("Get of the elder root = %s, %v, %v", v, ok, e)
	}
	if v, ok, e := cow.Get(p, second, []byte("a")); len(v) != 0 || ok || e != api.OK {
		t.Errorf("Get of the younger root = %s, %v, %v", v, ok, e)
	}
}
