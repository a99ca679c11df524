package cow_test

import (
	"bytes"
	"fmt"
	"maps"
	"math/rand"
	"slices"
	"strings"
	"testing"

	"shadowbox/api"
	"shadowbox/cow"
	"shadowbox/disk"
	"shadowbox/extent"
	"shadowbox/leaf"
)

// tree is what is found from a root on.
type tree struct {
	nodes      []api.Pointer
	level      int // of the root
	rootKeys   int
	keys, vals []string
	// weights are those of the nodes but the root, by the words of chapter 16.
	weights []int
}

// said is what a node's place says of it.
type said struct {
	level, birth int
	least        []byte
	end          []byte
	bounded      bool
}

// wrong tells why a node is not what is said of it; nothing: it is.
func (s *said) wrong(at api.Pointer, n leaf.Node) string {
	last := n.Keys[len(n.Keys)-1]
	switch {
	case n.Level != s.level:
		return fmt.Sprintf("is of level %d, not %d", n.Level, s.level)
	case !bytes.Equal(n.Keys[0], s.least):
		return fmt.Sprintf("begins with %x, not %x", n.Keys[0], s.least)
	case s.bounded && bytes.Compare(last, s.end) >= 0:
		return fmt.Sprintf("ends with %x, not below %x", last, s.end)
	case at.Birth > s.birth:
		return fmt.Sprintf("is born in %d, above %d", at.Birth, s.birth)
	}
	return ""
}

func textSize(n int) int {
	if n > 127 {
		return n + 2
	}
	return n + 1
}

func weigh(n leaf.Node) int {
	sum := 0
	for i, k := range n.Keys {
		sum += 1 + textSize(len(k))
		if n.Level > 0 {
			sum += 52
		} else {
			sum += textSize(len(n.Vals[i]))
		}
	}
	return sum
}

// plainTree goes over a tree by the chapter's words; it tells why it is none.
func plainTree(t testing.TB, d *disk.Disk, root api.Pointer) (tree, string) {
	t.Helper()
	out := tree{}
	if root == (api.Pointer{}) {
		return out, ""
	}
	var walk func(at api.Pointer, s *said) string
	walk = func(at api.Pointer, s *said) string {
		n, ok := plainLoad(t, d, at)
		if !ok {
			return fmt.Sprintf("at %d lies no node", at.At)
		}
		end, bounded := []byte(nil), false
		if s == nil {
			out.level, out.rootKeys = n.Level, len(n.Keys)
		} else {
			end, bounded = s.end, s.bounded
			out.weights = append(out.weights, weigh(n))
			if why := s.wrong(at, n); why != "" {
				return fmt.Sprintf("the node at %d %s", at.At, why)
			}
		}
		out.nodes = append(out.nodes, at)
		if n.Level == 0 {
			for i, k := range n.Keys {
				out.keys, out.vals = append(out.keys, string(k)), append(out.vals, string(n.Vals[i]))
			}
		}
		for i, kid := range n.Kids {
			next := said{level: n.Level - 1, birth: at.Birth, least: n.Keys[i], end: end, bounded: bounded}
			if i+1 < len(n.Keys) {
				next.end, next.bounded = n.Keys[i+1], true
			}
			if why := walk(kid, &next); why != "" {
				return why
			}
		}
		return ""
	}
	why := walk(root, nil)
	return out, why
}

// world is a pool, a root, and what its tree must be.
type world struct {
	t     *testing.T
	p     *cow.Pool
	root  api.Pointer
	model map[string]string
	// give: what is killed is given back behind each batch; else it stays, and so do the elder roots.
	give  bool
	stays []api.Pointer
	elder []elder
}

// elder is the last root of an epoch, and what its tree was.
type elder struct {
	epoch int
	root  api.Pointer
	model map[string]string
}

func newWorld(t *testing.T, n int, give bool) *world {
	t.Helper()
	return &world{t: t, p: made(t, n, 0), model: map[string]string{}, give: give}
}

func set(key, val string) cow.Edit { return cow.Edit{Key: []byte(key), Val: []byte(val)} }
func gone(key string) cow.Edit     { return cow.Edit{Key: []byte(key), Gone: true} }

// guarded answers edits with memory behind their lists' lengths, and a look at whether all of it is as it was.
func guarded(l []cow.Edit) ([]cow.Edit, func() bool) {
	if l == nil {
		return nil, func() bool { return true }
	}
	room := func(b []byte) []byte {
		if b == nil {
			return nil
		}
		out := append(slices.Clone(b), 0xee, 0xdd)
		return out[:len(b)]
	}
	list := make([]cow.Edit, 0, len(l)+1)
	for _, x := range l {
		list = append(list, cow.Edit{Key: room(x.Key), Val: room(x.Val), Gone: x.Gone})
	}
	list = append(list, cow.Edit{Key: []byte("spare")})[:len(l)]
	same := func(a, b []byte) bool {
		return (a == nil) == (b == nil) && bytes.Equal(a, b) && (a == nil || bytes.Equal(a[:len(a)+2], append(slices.Clone(b), 0xee, 0xdd)))
	}
	return list, func() bool {
		for i, x := range list {
			if !same(x.Key, l[i].Key) || !same(x.Val, l[i].Val) || x.Gone != l[i].Gone {
				return false
			}
		}
		spare := list[:len(l)+1][len(l)]
		return string(spare.Key) == "spare" && spare.Val == nil && !spare.Gone
	}
}

// must tells the tree of a root, which must be one.
func (w *world) must(root api.Pointer) tree {
	w.t.Helper()
	tr, why := plainTree(w.t, w.p.Disk, root)
	if why != "" {
		w.t.Fatalf("the root %v is no tree's: %s", root, why)
	}
	return tr
}

// minus tells what a has, and b has not.
func minus(a, b []api.Pointer) []api.Pointer {
	has := map[api.Pointer]int{}
	for _, x := range b {
		has[x]++
	}
	out := []api.Pointer{}
	for _, x := range a {
		if has[x] == 0 {
			out = append(out, x)
		}
	}
	return out
}

func byPlace(l []api.Pointer) []api.Pointer {
	out := slices.Clone(l)
	slices.SortFunc(out, func(a, b api.Pointer) int { return a.At - b.At })
	return out
}

// step does edits by Apply, and in the model, and asks all that the chapter promises of it.
func (w *world) step(l ...cow.Edit) {
	w.t.Helper()
	before := w.must(w.root)
	w.p.Killed = nil
	was := *w.p
	list, kept := guarded(l)
	root, e := cow.Apply(w.p, w.root, list)
	if e != api.OK {
		w.t.Fatalf("Apply of %d edits = %v", len(l), e)
	}
	if !kept() {
		w.t.Fatal("Apply changed what was handed in")
	}
	for _, x := range list {
		clear(x.Key)
		clear(x.Val)
	}
	for _, x := range l {
		if x.Gone {
			delete(w.model, string(x.Key))
		} else {
			w.model[string(x.Key)] = string(x.Val)
		}
	}
	after := w.must(root)
	w.holds(root, after)
	if w.p.Disk != was.Disk || w.p.Alloc != was.Alloc || w.p.Epoch != was.Epoch || w.p.Spare != was.Spare {
		w.t.Fatalf("the pool was %v, is %v", was, *w.p)
	}
	w.kills(before, after)
	if !w.give {
		// What is born in an epoch is given back in it at once: so only its last root stays.
		w.elder = slices.DeleteFunc(w.elder, func(x elder) bool { return x.epoch == w.p.Epoch })
		w.elder = append(w.elder, elder{w.p.Epoch, root, maps.Clone(w.model)})
	}
	w.root = root
	w.gets(l)
}

// holds asks whether a tree has the model's keys and values, and a root as the chapter says.
func (w *world) holds(root api.Pointer, tr tree) {
	w.t.Helper()
	want := slices.Sorted(maps.Keys(w.model))
	if !slices.Equal(tr.keys, want) {
		w.t.Fatalf("the tree has %d keys, want %d", len(tr.keys), len(want))
	}
	for i, k := range want {
		if tr.vals[i] != w.model[k] {
			w.t.Fatalf("the key %x has %x, want %x", k, tr.vals[i], w.model[k])
		}
	}
	if (root == api.Pointer{}) != (len(want) == 0) {
		w.t.Fatalf("the root of %d keys is %v", len(want), root)
	}
	if tr.level > 0 && tr.rootKeys < 2 {
		w.t.Fatalf("the root is of level %d, and has %d children", tr.level, tr.rootKeys)
	}
}

// kills asks whether what is not in the tree any more was killed, and nothing else, and whether just what is in use is.
func (w *world) kills(before, after tree) {
	w.t.Helper()
	old, fresh := minus(before.nodes, after.nodes), minus(after.nodes, before.nodes)
	elders := []api.Pointer{}
	for _, at := range old {
		if at.Birth != w.p.Epoch {
			elders = append(elders, at)
		}
	}
	if !slices.Equal(byPlace(w.p.Killed), byPlace(elders)) {
		w.t.Fatalf("killed are %v, want %v", byPlace(w.p.Killed), byPlace(elders))
	}
	for _, at := range fresh {
		if at.Birth != w.p.Epoch {
			w.t.Fatalf("in the epoch %d %v is new", w.p.Epoch, at)
		}
	}
	w.stays = append(w.stays, w.p.Killed...)
	w.uses(after.nodes)
	if w.give {
		for _, at := range w.stays {
			if e := w.p.Alloc.Give(span(at)); e != api.OK {
				w.t.Fatalf("Give(%v) = %v", at, e)
			}
		}
		w.stays = nil
		w.uses(after.nodes)
	}
}

// uses asks whether just the sectors of these blocks, and of those that stay, are in use, each once.
func (w *world) uses(nodes []api.Pointer) {
	w.t.Helper()
	free := []extent.Span{{From: 2, To: w.p.Disk.Len()}}
	for _, at := range slices.Concat(nodes, w.stays) {
		if !extent.Has(free, span(at)) {
			w.t.Fatalf("two blocks have a sector of %v", at)
		}
		free = extent.Remove(free, span(at))
	}
	if !slices.Equal(free, w.p.Alloc.Spans()) || w.p.Alloc.Waiting() != 0 {
		w.t.Fatalf("free is %v, want %v", w.p.Alloc.Spans(), free)
	}
}

// get asks for one key.
func (w *world) get(root api.Pointer, model map[string]string, key string) {
	w.t.Helper()
	want, there := model[key]
	k := []byte(key)
	v, ok, e := cow.Get(w.p, root, k)
	if e != api.OK || ok != there || string(v) != want || string(k) != key {
		w.t.Fatalf("Get(%x) = %x, %v, %v; want %x, %v", key, v, ok, e, want, there)
	}
}

// gets asks for the keys of edits, and for others beside those of the model.
func (w *world) gets(l []cow.Edit) {
	w.t.Helper()
	keys := []string{"", "\x00", "\xff", strings.Repeat("\xff", maxKey), strings.Repeat("\xff", maxKey+1), strings.Repeat("a", 1000)}
	for i, x := range l {
		if i < 20 || i%61 == 0 {
			keys = append(keys, string(x.Key))
		}
	}
	all := slices.Sorted(maps.Keys(w.model))
	for i, k := range all {
		if i < 3 || i >= len(all)-3 || i%(len(all)/8+1) == 0 {
			keys = append(keys, k, k+"\x00", k+"\xff", k[:len(k)/2])
			if k != "" {
				keys = append(keys, k[:len(k)-1])
			}
		}
	}
	for _, k := range keys {
		w.get(w.root, w.model, k)
	}
}

// elders asks whether all elder roots tell their trees.
func (w *world) elders() {
	w.t.Helper()
	for i, x := range w.elder {
		tr := w.must(x.root)
		old := *w
		old.model = x.model
		old.holds(x.root, tr)
		keys := slices.Sorted(maps.Keys(x.model))
		for j, k := range keys {
			if (i+j)%7 == 0 {
				w.get(x.root, x.model, k)
			}
		}
		w.get(x.root, x.model, "no such key")
	}
}

// keysOf answers n keys that rise: of different lengths, many of which begin with the one ahead.
func keysOf(n int) []string {
	out := []string{}
	for i := range n {
		k := fmt.Sprintf("%04d", i/4)
		switch i % 4 {
		case 1:
			k += "/a"
		case 2:
			k += "/a" + strings.Repeat("z", i%100)
		case 3:
			k += "/b" + strings.Repeat("\xff", 150)
		}
		out = append(out, k)
	}
	return out
}

func sets(keys []string, val func(i int) string) []cow.Edit {
	l := []cow.Edit{}
	for i, k := range keys {
		l = append(l, set(k, val(i)))
	}
	return l
}

func gones(keys []string) []cow.Edit {
	l := []cow.Edit{}
	for _, k := range keys {
		l = append(l, gone(k))
	}
	return l
}

func value(n, seed int) string { return string(full(n, seed%251)) }

func TestSmallTrees(t *testing.T) {
	longest, greatest := strings.Repeat("k", maxKey), strings.Repeat("\xff", maxKey)
	for _, give := range []bool{false, true} {
		w := newWorld(t, 400, give)
		w.step()
		w.step([]cow.Edit{}...)
		w.step(gone(""), gone("a"), gone(longest))
		w.step(set("", ""))
		w.step(gone(""))
		w.p.Epoch++
		w.step(set("a", "1"))
		w.step(set("a", "1"))
		w.step(set("a", "2"))
		w.p.Epoch++
		w.step(set("a", ""))
		w.step(gone("a"), set("b", "x"))
		w.step(gone("a"))
		w.step(set("", "ahead of all"), gone("a"), set("b", "x"), set("c", "behind all"))
		w.p.Epoch += 5
		w.step(set(longest, value(maxValue, 1)))
		w.step(set("ab", ""), set("abc", "between"), set("abcd", ""))
		w.step(set(greatest, value(maxValue, 2)))
		w.p.Epoch = lastEpoch
		w.step(gone(""), gone(longest), set(greatest[1:], value(maxValue, 3)), gone(greatest))
		w.step(gones(slices.Sorted(maps.Keys(w.model)))...)
		if w.root != (api.Pointer{}) || w.give && w.p.Alloc.Used() != 0 {
			t.Errorf("the root is %v, in use are %d", w.root, w.p.Alloc.Used())
		}
		w.elders()
	}
}

// TestGoneVal: the value of an edit that is Gone is of no matter.
func TestGoneVal(t *testing.T) {
	w := newWorld(t, 100, true)
	w.step(set("a", "1"), set("b", "2"))
	w.p.Epoch++
	w.step(cow.Edit{Key: []byte("a"), Val: make([]byte, maxValue+1), Gone: true}, cow.Edit{Key: []byte("c"), Val: []byte("x"), Gone: true})
}

// level asks whether a tree has a root of a level.
func (w *world) level(want int) {
	w.t.Helper()
	if tr := w.must(w.root); w.root == (api.Pointer{}) || tr.level != want {
		w.t.Fatalf("the root %v is of level %d, want %d", w.root, tr.level, want)
	}
}

// TestTrees does edits of all kinds in trees of one node up to four levels.
func TestTrees(t *testing.T) {
	for _, x := range []struct {
		keys, val, level, disk int
	}{{3, 9, 0, 400}, {60, 40, 1, 1500}, {2400, 20, 2, 6000}, {1500, 600, 2, sectors}} {
		seeds(t, 2, func(t *testing.T, seed int) {
			give := seed == 1
			w := newWorld(t, x.disk, give)
			all := keysOf(x.keys)
			even, odd := []string{}, []string{}
			for i, k := range all {
				if i%2 == 0 {
					even = append(even, k)
				} else {
					odd = append(odd, k)
				}
			}
			val := func(i int) string { return value(i%(x.val+1), i) }
			w.step(sets(even, val)...)
			w.p.Epoch++
			w.step(sets(all, val)...)
			w.level(x.level)
			w.step(sets(all, val)...)
			w.p.Epoch++
			for i, k := range []string{all[0], all[len(all)/2], all[len(all)-1], all[len(all)/3]} {
				w.step(set(k, "another"))
				w.p.Epoch++
				w.step(gone(k))
				w.p.Epoch++
				w.step(gone(k))
				w.p.Epoch++
				w.step(set(k+"+", value(min(x.val+i, maxValue), i)))
				w.p.Epoch++
			}
			w.step(set("", "ahead"), set("\xff\xff", "behind"))
			w.p.Epoch++
			if !give {
				w.elders()
				return
			}
			w.step(gones(odd)...)
			w.p.Epoch++
			w.step(gones(all[len(all)/3 : len(all)/2])...)
			w.p.Epoch++
			w.step(sets(all[len(all)/4:], func(i int) string { return "v" })...)
			w.p.Epoch++
			w.step(gones(all[1 : len(all)-1])...)
			w.p.Epoch++
			w.step(gones(slices.Sorted(maps.Keys(w.model)))...)
			if w.root != (api.Pointer{}) || w.p.Alloc.Used() != 0 {
				t.Errorf("the root is %v, in use are %d", w.root, w.p.Alloc.Used())
			}
		})
	}
}

// deepKeys answers keys that leaves take few bytes of, but nodes above many.
func deepKeys(n int) []string {
	out := []string{}
	for i := range n {
		out = append(out, strings.Repeat("d", 148)+fmt.Sprintf("%010d", i))
	}
	return out
}

func TestDeepTree(t *testing.T) {
	w := newWorld(t, sectors, true)
	all := deepKeys(20000)
	w.step(sets(all, func(i int) string { return "" })...)
	w.level(3)
	w.p.Epoch++
	for i := 0; i < len(all); i += 2500 {
		w.step(gone(all[i]), set(all[i]+"+", "x"))
		w.p.Epoch++
	}
	w.step(gones(all[3000:17000])...)
	w.p.Epoch++
	w.step(gones(slices.Sorted(maps.Keys(w.model))[1:])...)
	w.level(0)
}

// universe answers n keys that rise, of all lengths, some of which begin others.
func universe(r *rand.Rand, n int) []string {
	keys := map[string]int{"": 0, strings.Repeat("\xff", maxKey): 0, strings.Repeat("\x00", maxKey): 0}
	for len(keys) < n {
		b := make([]byte, r.Intn(maxKey+1))
		if r.Intn(2) == 0 {
			b = b[:min(len(b), 6)]
		}
		for i := range b {
			b[i] = "ab\x00\xff"[r.Intn(4)]
		}
		if r.Intn(3) == 0 {
			copy(b, strings.Repeat("b", 140))
		}
		keys[string(b)] = 0
	}
	return slices.Sorted(maps.Keys(keys))
}

// batch answers edits of some of the keys; one of shares is Gone.
func batch(r *rand.Rand, keys []string, few int, shares int) []cow.Edit {
	l := []cow.Edit{}
	from := r.Intn(len(keys))
	for i, k := range keys {
		// Half of the batches are of keys side by side.
		if few%2 == 0 && r.Intn(len(keys)) >= few || few%2 == 1 && (i < from || i >= from+few) {
			continue
		}
		if r.Intn(shares) == 0 {
			l = append(l, gone(k))
			continue
		}
		n := r.Intn(30)
		switch r.Intn(6) {
		case 0:
			n = r.Intn(maxValue + 1)
		case 1:
			n = maxValue - r.Intn(2)*maxValue
		}
		l = append(l, set(k, value(n, r.Intn(251))))
	}
	return l
}

// seeds runs a test of each seed below n, several at the same time.
func seeds(t *testing.T, n int, run func(t *testing.T, seed int)) {
	for seed := range n {
		t.Run(fmt.Sprint(seed), func(t *testing.T) {
			t.Parallel()
			run(t, seed)
		})
	}
}

func TestBatchesGivenBack(t *testing.T) {
	seeds(t, 8, func(t *testing.T, seed int) {
		r := rand.New(rand.NewSource(int64(seed)))
		w := newWorld(t, 4000, true)
		keys := universe(r, 60+seed*70)
		for round := range 60 {
			// The trees grow, then are as they were, then shrink, and grow again.
			shares := []int{9, 3, 2, 1, 4, 30}[round/10]
			w.step(batch(r, keys, r.Intn(2+len(keys)/(1+r.Intn(20))), shares)...)
			if r.Intn(3) > 0 {
				w.p.Epoch += 1 + r.Intn(3)
			}
		}
		w.step(gones(keys)...)
		if w.root != (api.Pointer{}) || w.p.Alloc.Used() != 0 {
			t.Errorf("the root is %v, in use are %d", w.root, w.p.Alloc.Used())
		}
	})
}

func TestBatchesElder(t *testing.T) {
	seeds(t, 8, func(t *testing.T, seed int) {
		r := rand.New(rand.NewSource(100 + int64(seed)))
		w := newWorld(t, sectors, false)
		keys := universe(r, 30+seed*25)
		for round := range 40 {
			w.step(batch(r, keys, r.Intn(2+len(keys)/(2+r.Intn(9))), []int{9, 3, 2, 4}[round/10])...)
			if r.Intn(4) > 0 {
				w.p.Epoch++
			}
		}
		w.p.Epoch++
		w.step(gones(keys)...)
		w.elders()
	})
}

// TestOneByOne lays keys one by one, and takes them away so: from the first one on, from the last one on, and from all sides.
func TestOneByOne(t *testing.T) {
	seeds(t, 4, func(t *testing.T, seed int) {
		w := newWorld(t, 600, true)
		keys := keysOf(110)
		r := rand.New(rand.NewSource(int64(seed)))
		ordered := func() []string {
			out := slices.Clone(keys)
			switch seed {
			case 1:
				slices.Reverse(out)
			case 2, 3:
				r.Shuffle(len(out), func(i, j int) { out[i], out[j] = out[j], out[i] })
			}
			return out
		}
		for i, k := range ordered() {
			w.step(set(k, value(i%300, i)))
			w.full()
			w.p.Epoch += seed % 3
		}
		w.level(1)
		for _, k := range ordered() {
			w.step(gone(k))
			w.full()
			w.p.Epoch += seed % 3
		}
		if w.root != (api.Pointer{}) || w.p.Alloc.Used() != 0 {
			t.Errorf("the root is %v, in use are %d", w.root, w.p.Alloc.Used())
		}
	})
}

// TestManyEdits does more edits than a row of sizes may have.
func TestManyEdits(t *testing.T) {
	seeds(t, 3, func(t *testing.T, seed int) {
		n := []int{65536, 65537, 140000}[seed]
		w := newWorld(t, sectors, true)
		l := []cow.Edit{}
		for i := range n {
			l = append(l, cow.Edit{Key: []byte{byte(i >> 16), byte(i >> 8), byte(i)}})
		}
		w.step(l...)
		w.full()
		w.p.Epoch++
		for i := range l {
			l[i].Gone = i%100 > 0
		}
		w.step(l...)
		w.full()
	})
}

// full asks whether no node but the root is almost empty. (The chapter leaves that free: but so a tree stays low.)
func (w *world) full() {
	w.t.Helper()
	for _, x := range w.must(w.root).weights {
		if x < mostNode/8 {
			w.t.Fatalf("a node weighs %d", x)
		}
	}
}

func TestNodesFull(t *testing.T) {
	seeds(t, 4, func(t *testing.T, seed int) {
		r := rand.New(rand.NewSource(200 + int64(seed)))
		w := newWorld(t, sectors, true)
		keys := deepKeys(2500)
		if seed%2 == 0 {
			keys = universe(r, 900)
		}
		w.step(sets(keys, func(i int) string { return value(r.Intn(60), i) })...)
		w.full()
		for range 25 {
			w.p.Epoch++
			w.step(batch(r, keys, r.Intn(len(keys)/2), 1+r.Intn(3))...)
			w.full()
		}
		// All but one key of each row go.
		for step := 2; len(w.model) > 1; step *= 3 {
			w.p.Epoch++
			l := []cow.Edit{}
			for i, k := range slices.Sorted(maps.Keys(w.model)) {
				if i%step != 0 {
					l = append(l, gone(k))
				}
			}
			w.step(l...)
			w.full()
		}
	})
}

// TestLastPiece lays a row of which a cut leaves a last piece of almost nothing.
func TestLastPiece(t *testing.T) {
	for groups := 1; groups < 9; groups++ {
		w := newWorld(t, 600, true)
		l := []cow.Edit{}
		for i := range groups {
			for j, weight := range []int{1189, 1189, 1189, 525} {
				k := fmt.Sprintf("%d%d", i, j)
				if weight > 1025 {
					k += strings.Repeat("k", maxKey-2)
				}
				val := weight - 1 - textSize(len(k)) - 2
				l = append(l, set(k, value(val, j)))
			}
		}
		l = append(l, set("z", ""))
		w.step(l...)
		w.full()
	}
}

// TestRoom lays nodes of all weights about the greatest, whose keys have nothing of the key ahead, of few keys and of many.
func TestRoom(t *testing.T) {
	for _, many := range []int{4, 127, 128, 129, 250} {
		for weight := mostNode - 12; weight < mostNode+12; weight++ {
			w := newWorld(t, 40, true)
			l, left := []cow.Edit{}, weight
			for i := range many {
				n := 1
				if i < 4 {
					// The first four have what the others leave.
					n = (weight-4*(many-4))/4 - 5
				}
				if i == many-1 {
					n = max(left-5, 0)
				}
				if n > 126 {
					n = min(n, maxValue)
				}
				l = append(l, set(string([]byte{byte(i)}), value(n, i)))
				left -= 3 + textSize(n)
			}
			w.step(l...)
		}
	}
}

// few does an edit, and asks whether it changed few nodes of each level.
func (w *world) few(x cow.Edit) {
	w.t.Helper()
	before := w.must(w.root)
	w.step(x)
	after := w.must(w.root)
	old, fresh := minus(before.nodes, after.nodes), minus(after.nodes, before.nodes)
	if high := before.level + 1; len(old) > 2*high || len(fresh) > 2*high+1 {
		w.t.Fatalf("%d nodes are old, and %d new, of %d levels", len(old), len(fresh), high)
	}
}

// TestFewNodes: an edit changes few nodes. (The chapter leaves that free: but room for an edit is asked for ahead by it.)
func TestFewNodes(t *testing.T) {
	seeds(t, 3, func(t *testing.T, seed int) {
		keys := [][]string{deepKeys(2000), keysOf(1500), deepKeys(500)}[seed]
		w := newWorld(t, sectors, true)
		if seed == 2 {
			// The root gets a node above it.
			w.step(sets(keys[:400], func(i int) string { return value(i%50, i) })...)
			w.level(1)
			for i, k := range keys[400:] {
				w.p.Epoch++
				w.few(set(k, value(i%50, i)))
			}
			w.level(2)
			return
		}
		w.step(sets(keys, func(i int) string { return value(i%50, i) })...)
		w.level(2)
		r := rand.New(rand.NewSource(1))
		from := r.Intn(len(keys) - 150)
		for i := range 140 {
			switch {
			case i < 80:
				w.few(gone(keys[from+i]))
			case i%2 == 0:
				w.few(set(keys[r.Intn(len(keys))], value(maxValue, i)))
			default:
				w.few(set(keys[r.Intn(len(keys))]+"+", value(r.Intn(maxValue), i)))
			}
			w.p.Epoch += i % 2
		}
	})
}

// TestLeafGone: where all keys of a node go, its neighbours stay as they are.
func TestLeafGone(t *testing.T) {
	keys := keysOf(120)
	for i := range 3 {
		w := newWorld(t, 1000, true)
		w.step(sets(keys, func(i int) string { return value(300, i) })...)
		w.level(1)
		root, ok := plainLoad(t, w.p.Disk, w.root)
		if !ok || len(root.Kids) < 4 {
			t.Fatalf("the root is %v", root)
		}
		at := []int{0, 2, len(root.Kids) - 1}[i]
		low, ok := plainLoad(t, w.p.Disk, root.Kids[at])
		if !ok {
			t.Fatal("there is no node")
		}
		l := []cow.Edit{}
		for _, k := range low.Keys {
			l = append(l, gone(string(k)))
		}
		w.p.Epoch++
		w.step(l...)
		now, ok := plainLoad(t, w.p.Disk, w.root)
		if want := slices.Delete(slices.Clone(root.Kids), at, at+1); !ok || !slices.Equal(now.Kids, want) {
			t.Errorf("of %v without %d there are %v", root.Kids, at, now.Kids)
		}
	}
}

// TestSame: the same calls have the same answers, and leave the same disk.
func TestSame(t *testing.T) {
	run := func() *world {
		r := rand.New(rand.NewSource(5))
		w := newWorld(t, sectors, true)
		keys := universe(r, 200)
		for range 40 {
			w.step(batch(r, keys, r.Intn(80), 3)...)
			w.p.Epoch++
		}
		return w
	}
	a, b := run(), run()
	if a.root != b.root || !bytes.Equal(whole(t, a.p.Disk), whole(t, b.p.Disk)) || !stateOf(a.p).same(stateOf(b.p)) {
		t.Errorf("%v and %v", a.root, b.root)
	}
	for k := range a.model {
		x, _, _ := cow.Get(a.p, a.root, []byte(k))
		y, _, _ := cow.Get(a.p, a.root, []byte(k))
		if !bytes.Equal(x, y) || len(x) > 0 && &x[0] == &y[0] {
			t.Errorf("Get(%x) = %x and %x", k, x, y)
		}
		for i := range x[:cap(x)] {
			x[:cap(x)][i] ^= 77
		}
		a.get(a.root, a.model, k)
	}
}

func TestApplyErrArg(t *testing.T) {
	p := made(t, 100, 0)
	root, e := cow.Apply(p, api.Pointer{}, []cow.Edit{set("a", "1"), set("c", "3")})
	if e != api.OK {
		t.Fatal(e)
	}
	p.Epoch = 2
	tooLong := strings.Repeat("b", maxKey+1)
	roots := append(unfit(), root, api.Pointer{}, api.Pointer{At: 99, Birth: 1, Length: 513}, api.Pointer{At: root.At, Birth: 1, Length: root.Length})
	for _, l := range [][]cow.Edit{
		{set("b", ""), set("a", "")}, {set("b", ""), set("b", "")}, {set("b", ""), gone("b")}, {gone("b"), set("b", "")}, {gone("b"), gone("b")},
		{set("", ""), set("", "")}, {set("a", ""), set("b", ""), set("ab", "")}, {set("b", ""), set("", "")}, {set("ab", ""), set("a", "")},
		{set("\x80", ""), set("\x7f", "")},
		{set(tooLong, "")}, {gone(tooLong)}, {set("a", ""), set(tooLong, "")}, {set(tooLong[1:], ""), set(tooLong, "")}, {gone(strings.Repeat("z", 70000))},
		{set("a", strings.Repeat("v", maxValue+1))}, {gone("a"), set("b", strings.Repeat("v", 70000))}, {set("c", strings.Repeat("v", maxValue+1)), set("d", "")},
	} {
		for _, at := range roots {
			unchanged(t, "Apply", p, func() {
				if got, e := cow.Apply(p, at, l); got != (api.Pointer{}) || e != api.ErrArg {
					t.Errorf("Apply(%v, %v) = %v, %v", at, l, got, e)
				}
			})
		}
	}
	p.Epoch = 0
	if _, e := cow.Apply(p, root, []cow.Edit{set("b", "2")}); e != api.ErrArg {
		t.Errorf("Apply in no epoch = %v", e)
	}
}

// TestRootErrors: the errors of Load, of Apply and of Get.
func TestRootErrors(t *testing.T) {
	p := made(t, 100, 0)
	root, e := cow.Apply(p, api.Pointer{}, []cow.Edit{set("a", "1"), set("c", "3")})
	if e != api.OK {
		t.Fatal(e)
	}
	other := root
	other.Sha[31]++
	fails := func(at api.Pointer, want api.Errno) {
		t.Helper()
		for _, l := range [][]cow.Edit{{set("b", "2")}, {gone("a"), gone("c")}, {gone("x")}, {set("a", "1")}} {
			unchanged(t, "Apply", p, func() {
				if got, e := cow.Apply(p, at, l); got != (api.Pointer{}) || e != want {
					t.Errorf("Apply(%v, %v) = %v, %v; want %v", at, l, got, e, want)
				}
			})
		}
		for _, k := range []string{"a", "", "c", "zz", strings.Repeat("z", 1000)} {
			if v, ok, e := cow.Get(p, at, []byte(k)); len(v) != 0 || ok || e != want {
				t.Errorf("Get(%v, %s) = %s, %v, %v; want %v", at, k, v, ok, e, want)
			}
		}
	}
	for _, at := range unfit()[1:] {
		fails(at, api.ErrArg)
	}
	fails(api.Pointer{At: 99, Birth: 1, Length: 513}, api.ErrArg)
	fails(api.Pointer{At: 100, Birth: 1, Length: 1}, api.ErrArg)
	fails(other, api.ErrSum)
	fails(api.Pointer{At: root.At, Birth: 1, Length: root.Length - 1}, api.ErrSum)
	fails(lay(t, p, []byte{0, 0}), api.ErrForm)
	fails(lay(t, p, full(5000, 1)), api.ErrForm)
	b := lies(t, p.Disk, root)
	b[0] ^= 1
	if e := p.Disk.Write(root.At, b); e != api.OK {
		t.Fatal(e)
	}
	fails(root, api.ErrSum)
}
