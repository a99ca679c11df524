package cow_test

import (
	"bytes"
	"fmt"
	"maps"
	"math"
	"math/rand"
	"slices"
	"strings"
	"testing"

	"shadowbox/alloc"
	"shadowbox/api"
	"shadowbox/cow"
	"shadowbox/disk"
	"shadowbox/leaf"
)

// over answers a node over others, by the least key of each.
func over(level int, keys []string, kids ...api.Pointer) leaf.Node {
	n := leaf.Node{Level: level, Kids: kids}
	for _, k := range keys {
		n.Keys = append(n.Keys, []byte(k))
	}
	return n
}

// adopt lets a world have a root that was laid without Apply.
func (w *world) adopt(root api.Pointer) {
	w.t.Helper()
	tr := w.must(root)
	w.root, w.model = root, map[string]string{}
	for i, k := range tr.keys {
		w.model[k] = tr.vals[i]
	}
	w.uses(tr.nodes)
}

// odd lays a tree of these keys with a root of a level: how many children its nodes have is left to chance, one among others.
func (w *world) odd(r *rand.Rand, level int, keys []string) api.Pointer {
	w.t.Helper()
	if level == 0 {
		n := leaf.Node{}
		for _, k := range keys {
			n.Keys, n.Vals = append(n.Keys, []byte(k)), append(n.Vals, []byte(value(r.Intn(20), r.Intn(251))))
		}
		return store(w.t, w.p, n)
	}
	leasts, kids := []string{}, []api.Pointer{}
	for len(keys) > 0 {
		n := len(keys)
		if most := 20; r.Intn(3) > 0 || n > most {
			n = min(n, 1+r.Intn(most))
			if level > 1 {
				n = min(len(keys), n*(1+r.Intn(4*level)))
			}
			if len(leasts) > 12 {
				n = len(keys)
			}
		}
		if level == 1 {
			n = min(n, 40)
		}
		leasts, kids = append(leasts, keys[0]), append(kids, w.odd(r, level-1, keys[:n]))
		keys = keys[n:]
	}
	// Children are not younger than their node.
	w.p.Epoch += r.Intn(2)
	return store(w.t, w.p, over(level, leasts, kids...))
}

// TestOddTrees does edits in trees that are right, but not as Apply makes them: high ones, with nodes of one child, and almost empty ones.
func TestOddTrees(t *testing.T) {
	seeds(t, 30, func(t *testing.T, seed int) {
		r := rand.New(rand.NewSource(int64(seed)))
		for round := range 4 {
			w := newWorld(t, 6000, true)
			keys := universe(r, 3+r.Intn(120))
			w.adopt(w.odd(r, (seed+round)%(levels+1), keys[:1+r.Intn(len(keys))]))
			w.p.Epoch += r.Intn(2)
			for i := range 8 {
				if i > 0 || round%2 == 0 {
					w.step(batch(r, keys, r.Intn(2+len(keys)/3), 1+r.Intn(4))...)
				}
				w.p.Epoch += r.Intn(2)
				w.step()
			}
			w.step(gones(keys)...)
			if w.root != (api.Pointer{}) || w.p.Alloc.Used() != 0 {
				t.Errorf("the root is %v, in use are %d", w.root, w.p.Alloc.Used())
			}
		}
	})
}

// TestOneChild: a root of one child, and of one child each below it, is none behind an Apply.
func TestOneChild(t *testing.T) {
	for high := range levels {
		for _, l := range [][]cow.Edit{nil, {}, {gone("x")}, {set("a", "a!")}, {set("a", "other")}, {set("", "ahead")}, {gone("a")}, {gone("a"), gone("b")}, {set("c", "behind")}} {
			w := newWorld(t, 400, true)
			at := store(t, w.p, node("a", "b"))
			for level := range high {
				at = store(t, w.p, over(level+1, []string{"a"}, at))
				w.p.Epoch++
			}
			w.adopt(at)
			w.step(l...)
			if w.root != (api.Pointer{}) {
				w.level(0)
			}
		}
	}
	// The one child that is left has one child.
	w := newWorld(t, 400, true)
	low := over(1, []string{"a"}, store(t, w.p, node("a", "b")))
	left, right := over(2, []string{"a"}, store(t, w.p, low)), over(2, []string{"p"}, store(t, w.p, over(1, []string{"p"}, store(t, w.p, node("p", "q")))))
	w.adopt(store(t, w.p, over(3, []string{"a", "p"}, store(t, w.p, left), store(t, w.p, right))))
	w.p.Epoch++
	w.step(gone("p"), gone("q"))
	w.level(0)
}

// TestDenseTrees does edits in nodes whose keys begin alike, so that they have more of them than their weights would let.
func TestDenseTrees(t *testing.T) {
	for _, x := range []func(keys []string) []cow.Edit{
		func(keys []string) []cow.Edit { return []cow.Edit{set(keys[0], "other")} },
		func(keys []string) []cow.Edit { return []cow.Edit{gone(keys[0])} },
		func(keys []string) []cow.Edit { return []cow.Edit{set(keys[len(keys)/2]+"+", value(maxValue, 1))} },
		func(keys []string) []cow.Edit { return []cow.Edit{set(keys[len(keys)-1], value(maxValue, 1))} },
		func(keys []string) []cow.Edit { return gones(keys[1:]) },
	} {
		w := newWorld(t, sectors, true)
		all := deepKeys(60 * 500)
		leasts, kids := []string{}, []api.Pointer{}
		for i := range 60 {
			n := leaf.Node{}
			for _, k := range all[i*500 : i*500+500] {
				n.Keys, n.Vals = append(n.Keys, []byte(k)), append(n.Vals, nil)
			}
			leasts, kids = append(leasts, all[i*500]), append(kids, store(t, w.p, n))
		}
		w.adopt(store(t, w.p, over(1, leasts, kids...)))
		w.p.Epoch++
		w.step(x(all)...)
		w.p.Epoch++
		w.step(set("a", "1"), set("z", "1"))
	}
}

// TestHighTree puts a key into a tree that has no room on the way to it, up to a root of the greatest level.
func TestHighTree(t *testing.T) {
	pad := func(k string) string { return k + strings.Repeat("-", maxKey-len(k)) }
	for i, many := range []int{18, 17, 18} {
		w := newWorld(t, sectors, true)
		n := leaf.Node{}
		for j := range 3 {
			n.Keys, n.Vals = append(n.Keys, []byte(pad(fmt.Sprintf("0000%d", j)))), append(n.Vals, full(maxValue, j))
		}
		n.Keys, n.Vals = append(n.Keys, []byte(pad("00003"))), append(n.Vals, full(300, 3))
		at := store(t, w.p, n)
		for level := 1; level <= levels; level++ {
			leasts, kids := []string{string(n.Keys[0])}, []api.Pointer{at}
			for j := range many {
				k := pad(fmt.Sprintf("%02d%02d", level, j))
				kid := store(t, w.p, node(k))
				for low := 1; low < level; low++ {
					kid = store(t, w.p, over(low, []string{k}, kid))
				}
				if i == 2 && level == 7 {
					kid.Crc ^= 1
				}
				leasts, kids = append(leasts, k), append(kids, kid)
			}
			at = store(t, w.p, over(level, leasts, kids...))
		}
		w.p.Epoch++
		if i == 2 {
			// All is read then, and one node can't be.
			unchanged(t, "Apply", w.p, func() {
				if root, e := cow.Apply(w.p, at, []cow.Edit{set(pad("00001+"), value(maxValue, 4))}); root != (api.Pointer{}) || e != api.ErrSum {
					t.Errorf("Apply = %v, %v", root, e)
				}
			})
			return
		}
		w.adopt(at)
		w.level(levels)
		w.step(set(pad("00001+"), value(maxValue, 4)))
		w.p.Epoch++
		w.step(set(pad("00001-+"), value(maxValue, 5)))
		w.p.Epoch++
		w.step(gone(pad("0000")), gone(pad("0100")), gone(pad("0105")))
	}
}

// TestLowerEpochs does edits in epochs below those of nodes that are in the tree: none may be elder than its children.
func TestLowerEpochs(t *testing.T) {
	seeds(t, 6, func(t *testing.T, seed int) {
		r := rand.New(rand.NewSource(int64(seed)))
		w := newWorld(t, sectors, seed%2 == 0)
		keys := universe(r, 100+r.Intn(400))
		for range 25 {
			w.p.Epoch = []int{1, 2, 3, 1 + r.Intn(9), lastEpoch - r.Intn(2)}[r.Intn(5)]
			w.step(batch(r, keys, r.Intn(2+len(keys)/4), 3)...)
		}
	})
	w := newWorld(t, sectors, true)
	w.p.Epoch = 9
	w.step(sets(deepKeys(10000), func(int) string { return "" })...)
	w.level(3)
	w.p.Epoch = 4
	w.step(set("z", "1"))
	w.p.Epoch = 9
	w.step(set("zz", "1"))
	w.p.Epoch = 8
	w.step(gone("zz"))
}

// found is what Get must answer: each node on the way read by the chapter's words.
func found(t *testing.T, p *cow.Pool, root api.Pointer, key string) (string, bool, api.Errno) {
	t.Helper()
	at, s := root, (*said)(nil)
	for {
		if at.At < 2 || at.At+needs(at.Length) > p.Disk.Len() {
			return "", false, api.ErrArg
		}
		b := lies(t, p.Disk, at)[:at.Length]
		n, ok := plainRead(b)
		end, bounded := []byte(nil), false
		switch {
		case of(at.At, at.Birth, b) != at:
			return "", false, api.ErrSum
		case !ok:
			return "", false, api.ErrForm
		case s != nil:
			end, bounded = s.end, s.bounded
			if s.wrong(at, n) != "" {
				return "", false, api.ErrForm
			}
		}
		i := len(n.Keys) - 1
		for i >= 0 && string(n.Keys[i]) > key {
			i--
		}
		if i < 0 || n.Level == 0 && string(n.Keys[i]) != key {
			return "", false, api.OK
		}
		if n.Level == 0 {
			return string(n.Vals[i]), true, api.OK
		}
		s = &said{level: n.Level - 1, birth: at.Birth, least: n.Keys[i], end: end, bounded: bounded}
		if i+1 < len(n.Keys) {
			s.end, s.bounded = n.Keys[i+1], true
		}
		at = n.Kids[i]
	}
}

// asks holds Get of keys against found, and asks Apply for each of them for its error; it tells how many errors there are.
func (w *world) asks(root api.Pointer, keys []string) int {
	w.t.Helper()
	wrong := 0
	for _, k := range keys {
		want, there, err := found(w.t, w.p, root, k)
		v, ok, e := cow.Get(w.p, root, []byte(k))
		if e != err || ok != there || string(v) != want {
			w.t.Fatalf("Get(%q) = %q, %v, %v; want %q, %v, %v", k, v, ok, e, want, there, err)
		}
		if err != api.OK {
			wrong++
		}
		for _, x := range []cow.Edit{set(k, "new"), gone(k)} {
			copied := *w.p
			copied.Epoch = 9 // no node is born in it: what lies there stays
			mark := w.p.Alloc.Mark()
			got, e := cow.Apply(&copied, root, []cow.Edit{x})
			switch {
			case err != api.OK && e != err:
				w.t.Fatalf("Apply at %q = %v, %v; want %v", k, got, e, err)
			case e != api.OK && (got != api.Pointer{} || e != api.ErrForm && e != api.ErrSum && e != api.ErrArg):
				w.t.Fatalf("Apply at %q = %v, %v", k, got, e)
			case e == api.OK && !x.Gone: // (where it is gone, what is no tree may have it elsewhere)
				if v, ok, e := cow.Get(w.p, got, []byte(k)); string(v) != "new" || !ok || e != api.OK {
					w.t.Fatalf("Get(%q) behind it is set = %q, %v, %v", k, v, ok, e)
				}
			}
			w.p.Alloc.Undo(mark)
		}
	}
	return wrong
}

// letters answers all texts of one letter, and some beside.
func letters() []string {
	out := []string{"", "0", "hh", "zz"}
	for c := 'a'; c <= 'z'; c++ {
		out = append(out, string(c))
	}
	return out
}

// grove is the children of a tree of three levels: what stands for them may be exchanged.
type grove struct {
	low  [5]leaf.Node // of level 0
	mid  [2]leaf.Node // of level 1
	born [7]int       // of low, and of mid
	root int
}

func newGrove() grove {
	return grove{
		low:  [5]leaf.Node{node("a", "c", "e"), node("h", "j", "l"), node("q", "s", "u"), node("w"), node("y", "z")},
		mid:  [2]leaf.Node{over(1, []string{"a", "h", "q"}), over(1, []string{"w", "y"})},
		born: [7]int{1, 2, 2, 1, 2, 3, 3}, root: 3,
	}
}

// plant lays a grove: the kids of nodes that tell none are set.
func (w *world) plant(g grove) api.Pointer {
	w.t.Helper()
	low := []api.Pointer{}
	for i, n := range g.low {
		w.p.Epoch = g.born[i]
		low = append(low, store(w.t, w.p, n))
	}
	mid := []api.Pointer{}
	for i, n := range g.mid {
		if n.Level == 1 && len(n.Kids) == 0 {
			n.Kids = [][]api.Pointer{low[:3], low[3:]}[i]
		}
		w.p.Epoch = g.born[5+i]
		mid = append(mid, store(w.t, w.p, n))
	}
	w.p.Epoch = g.root
	root := store(w.t, w.p, over(2, []string{"a", "w"}, mid...))
	w.p.Epoch = 4
	return root
}

// TestNoTree: nodes that are no tree's. Each fault, and how many of the letters are then not told.
func TestNoTree(t *testing.T) {
	good := made(t, 20, 0)
	kid := store(t, good, node("h", "j", "l"))
	for _, x := range []struct {
		what string
		do   func(g *grove)
		want []string // ErrForm is told of them
	}{
		{"nothing", func(g *grove) {}, nil},
		{"a leaf of level 1", func(g *grove) { g.low[1] = over(1, []string{"h"}, kid) }, strings.Split("hijklmnop", "")},
		{"a leaf of level 2", func(g *grove) { g.low[1] = over(2, []string{"h"}, kid) }, strings.Split("hijklmnop", "")},
		{"a child of level 0", func(g *grove) { g.mid[1] = node("w", "x") }, strings.Split("wxyz", "")},
		{"a child of level 2", func(g *grove) { g.mid[1] = over(2, []string{"w"}, kid) }, strings.Split("wxyz", "")},
		{"a child of level 3", func(g *grove) { g.mid[0] = over(3, []string{"a"}, kid) }, strings.Split("abcdefghijklmnopqrstuv", "")},
		{"a least key above", func(g *grove) { g.low[1] = node("hh", "j") }, strings.Split("hijklmnop", "")},
		{"a least key below", func(g *grove) { g.low[1] = node("g", "h", "j") }, strings.Split("hijklmnop", "")},
		{"a least key far below", func(g *grove) { g.low[1] = node("", "h", "j") }, strings.Split("hijklmnop", "")},
		{"the first least key below", func(g *grove) { g.low[0] = node("", "a") }, strings.Split("abcdefg", "")},
		{"a child's least key above", func(g *grove) { g.mid[1] = over(1, []string{"x", "y"}) }, strings.Split("wxyz", "")},
		{"a child's least key below", func(g *grove) { g.mid[1] = over(1, []string{"v", "y"}) }, strings.Split("wxyz", "")},
		{"a key that is the next one", func(g *grove) { g.low[1] = node("h", "q") }, strings.Split("hijklmnop", "")},
		{"a key above the next one", func(g *grove) { g.low[1] = node("h", "j", "r") }, strings.Split("hijklmnop", "")},
		{"a key just below the next one", func(g *grove) { g.low[1] = node("h", "j", "pzzz") }, nil},
		{"a key that is the next one's above", func(g *grove) { g.low[2] = node("q", "s", "w") }, strings.Split("qrstuv", "")},
		{"a key above the next one's above", func(g *grove) { g.low[2] = node("q", "z") }, strings.Split("qrstuv", "")},
		{"a key far behind, of the last one", func(g *grove) { g.low[4] = node("y", "zzzz") }, nil},
		{"a child's key that is the next one", func(g *grove) { g.mid[0] = over(1, []string{"a", "h", "w"}) }, strings.Split("abcdefghijklmnopqrstuv", "")},
		{"a child's key above the next one", func(g *grove) { g.mid[0] = over(1, []string{"a", "h", "x"}) }, strings.Split("abcdefghijklmnopqrstuv", "")},
		{"a leaf that is born behind its node", func(g *grove) { g.born[1] = 4 }, strings.Split("hijklmnop", "")},
		{"a leaf that is born with the root", func(g *grove) { g.born[1], g.born[5], g.root = 3, 2, 3 }, strings.Split("hijklmnop", "")},
		{"a child that is born behind its node", func(g *grove) { g.born[6] = 4 }, strings.Split("wxyz", "")},
		{"a root that is elder than all", func(g *grove) { g.root = 2 }, strings.Split("abcdefghijklmnopqrstuvwxyz", "")},
		{"all born at once", func(g *grove) { g.born, g.root = [7]int{4, 4, 4, 4, 4, 4, 4}, 4 }, nil},
	} {
		w := newWorld(t, 100, false)
		g := newGrove()
		x.do(&g)
		root := w.plant(g)
		if _, why := plainTree(t, w.p.Disk, root); (why == "") != (x.want == nil) {
			t.Fatalf("%s: %s", x.what, why)
		}
		for _, k := range letters() {
			want := api.OK
			if k != "" && slices.Contains(x.want, k[:1]) {
				want = api.ErrForm
			}
			if _, _, e := found(t, w.p, root, k); e != want {
				t.Fatalf("%s: %s should be %v", x.what, k, want)
			}
		}
		w.asks(root, letters())
		if x.want == nil {
			w.adopt(root)
			for _, k := range letters() {
				w.step(set(k, "!"))
				w.p.Epoch++
			}
		}
	}
}

// TestBrokenChildren: blocks of children that can't be read.
func TestBrokenChildren(t *testing.T) {
	for _, x := range []struct {
		what string
		do   func(w *world, at *api.Pointer)
		want api.Errno
	}{
		{"turned", func(w *world, at *api.Pointer) {
			b := lies(t, w.p.Disk, *at)
			b[at.Length-1] ^= 1
			if e := w.p.Disk.Write(at.At, b); e != api.OK {
				t.Fatal(e)
			}
		}, api.ErrSum},
		{"another sum", func(w *world, at *api.Pointer) { at.Crc ^= 1 }, api.ErrSum},
		{"another place", func(w *world, at *api.Pointer) { at.At++ }, api.ErrSum},
		{"beyond the disk", func(w *world, at *api.Pointer) { at.At = 100 }, api.ErrArg},
		{"at the greatest place", func(w *world, at *api.Pointer) { at.At = sectors - 1 }, api.ErrArg},
		{"no node", func(w *world, at *api.Pointer) { *at = lay(t, w.p, []byte{9, 9}) }, api.ErrForm},
		{"too long", func(w *world, at *api.Pointer) { *at = lay(t, w.p, full(mostNode+1, 1)) }, api.ErrForm},
	} {
		w := newWorld(t, 100, false)
		kids := []api.Pointer{store(t, w.p, node("a", "c")), store(t, w.p, node("h", "j")), store(t, w.p, node("q", "s"))}
		x.do(w, &kids[1])
		root := store(t, w.p, over(1, []string{"a", "h", "q"}, kids...))
		for _, k := range letters() {
			want := api.OK
			if k >= "h" && k < "q" {
				want = x.want
			}
			if _, _, e := found(t, w.p, root, k); e != want {
				t.Fatalf("%s: %s should be %v", x.what, k, want)
			}
		}
		w.asks(root, letters())

		// It is all that is left of a tree, and so the root: a node above level 0 must be read then, as it may have one child.
		ahead, behind := store(t, w.p, node("a")), store(t, w.p, node("h"))
		for level := 1; level < 4; level++ {
			broken := behind
			x.do(w, &broken)
			root := store(t, w.p, over(level, []string{"a", "h"}, ahead, broken))
			w.p.Epoch++
			want, err := broken, api.OK
			if level > 1 {
				want, err = api.Pointer{}, x.want
			}
			if at, e := cow.Apply(w.p, root, []cow.Edit{gone("a")}); at != want || e != err {
				t.Errorf("%s, below level %d: Apply = %v, %v; want %v, %v", x.what, level, at, e, want, err)
			}
			ahead, behind = store(t, w.p, over(level, []string{"a"}, ahead)), store(t, w.p, over(level, []string{"h"}, store(t, w.p, node("h"))))
		}
	}
}

// TestBrokenBeside: children beside the way that can't be read are of no matter, also to one that is almost empty.
func TestBrokenBeside(t *testing.T) {
	for i := range 3 {
		for _, light := range []bool{false, true} {
			w := newWorld(t, 200, false)
			names := []string{"a", "h", "q"}
			kids := []api.Pointer{}
			for j, k := range names {
				n := node(k)
				if !light {
					n.Vals[0] = full(maxValue, j)
				}
				kids = append(kids, store(t, w.p, n))
				if j != i {
					kids[j].Crc ^= 1
				}
			}
			root := store(t, w.p, over(1, names, kids...))
			for _, x := range []cow.Edit{set(names[i], "new"), set(names[i]+"+", "new"), set(names[i]+"+", value(maxValue, 1))} {
				w.p.Epoch, w.p.Killed = 2, nil
				at, e := cow.Apply(w.p, root, []cow.Edit{x})
				if e != api.OK {
					t.Fatalf("Apply = %v", e)
				}
				if v, ok, e := cow.Get(w.p, at, x.Key); !bytes.Equal(v, x.Val) || !ok || e != api.OK {
					t.Errorf("Get = %x, %v, %v", v, ok, e)
				}
				if !slices.Equal(byPlace(w.p.Killed), byPlace([]api.Pointer{root, kids[i]})) {
					t.Errorf("killed are %v", w.p.Killed)
				}
				got, ok := plainLoad(t, w.p.Disk, at)
				if !ok || len(got.Kids) != 3 {
					t.Fatalf("the root is %v, %v", got, ok)
				}
				for j := range kids {
					if (got.Kids[j] == kids[j]) != (j != i) {
						t.Errorf("of %v the root has now %v", kids, got.Kids)
					}
				}
			}
		}
	}
}

// TestBrokenElsewhere: a child beside the way that must be laid anew too can't be read.
func TestBrokenElsewhere(t *testing.T) {
	w := newWorld(t, 100, false)
	w.p.Epoch = 5
	kids := []api.Pointer{store(t, w.p, node("a", "c")), store(t, w.p, node("h", "j")), store(t, w.p, node("q", "s"))}
	kids[2].Crc ^= 1
	// The first one has so many children that it is not joined with the second one.
	leasts, many := []string{"a"}, []api.Pointer{store(t, w.p, big())}
	for c := 'd'; c < 'd'+10; c++ {
		leasts, many = append(leasts, string(c)), append(many, store(t, w.p, node(string(c))))
	}
	low := []api.Pointer{store(t, w.p, over(1, leasts, many...)), store(t, w.p, over(1, []string{"p", "q"}, store(t, w.p, node("p")), kids[2]))}
	for _, root := range []api.Pointer{
		store(t, w.p, over(1, []string{"a", "q"}, store(t, w.p, big()), kids[2])), store(t, w.p, over(2, []string{"a", "p"}, low...)),
	} {
		w.p.Epoch = 4
		if at, e := cow.Apply(w.p, root, []cow.Edit{set("b", "new")}); at != (api.Pointer{}) || e != api.ErrSum {
			t.Errorf("Apply = %v, %v", at, e)
		}
		w.p.Epoch = 5
	}
}

// big answers a node that is not light.
func big() leaf.Node {
	n := node("a", "c")
	n.Vals[0], n.Vals[1] = full(maxValue, 1), full(maxValue, 2)
	return n
}

// someKid tells a block for a child of a node of a level at a key: mostly one that is what the node says, as far as there is one.
func (w *world) someKid(r *rand.Rand, pool [][]api.Pointer, level int, key string) api.Pointer {
	kids := pool[level-1]
	if r.Intn(20) == 0 {
		kids = pool[r.Intn(4)]
	}
	if len(kids) == 0 {
		kids = pool[0]
	}
	kid := kids[r.Intn(len(kids))]
	for range 60 {
		if got, ok := plainLoad(w.t, w.p.Disk, kid); !ok || string(got.Keys[0]) == key {
			break
		}
		kid = kids[r.Intn(len(kids))]
	}
	return kid
}

// whole asks for edits of a root, if it has a tree.
func (w *world) whole(root api.Pointer) {
	w.t.Helper()
	tr, why := plainTree(w.t, w.p.Disk, root)
	if why != "" {
		return
	}
	one := &world{t: w.t, p: &cow.Pool{Disk: w.p.Disk, Alloc: w.p.Alloc, Epoch: 9}, model: map[string]string{}}
	for i, k := range tr.keys {
		one.model[k] = tr.vals[i]
	}
	mark := w.p.Alloc.Mark()
	at, e := cow.Apply(one.p, root, []cow.Edit{set("c", "new"), gone("d")})
	if e != api.OK {
		w.t.Fatalf("Apply = %v", e)
	}
	one.model["c"] = "new"
	delete(one.model, "d")
	one.holds(at, one.must(at))
	w.p.Alloc.Undo(mark)
}

// TestJunk: whatever nodes lie in the blocks, calls end, and answer what the nodes on the way let them.
func TestJunk(t *testing.T) {
	seeds(t, 12, func(t *testing.T, seed int) {
		r := rand.New(rand.NewSource(int64(seed)))
		w := newWorld(t, 4000, false)
		pool := [][]api.Pointer{{}, {}, {}, {}}
		all := strings.Split("abcdefgh", "")
		wrong := 0
		for range 260 {
			keys := []string{}
			for _, k := range all {
				if r.Intn(3) == 0 {
					keys = append(keys, k)
				}
			}
			if len(keys) == 0 {
				continue
			}
			w.p.Epoch = 1 + r.Intn(3)
			level := r.Intn(4)
			if len(pool[max(level-1, 0)]) == 0 {
				level = 0
			}
			if level == 0 {
				pool[0] = append(pool[0], store(t, w.p, node(keys...)))
				continue
			}
			n := over(level, keys)
			for _, k := range keys {
				n.Kids = append(n.Kids, w.someKid(r, pool, level, k))
			}
			at := store(t, w.p, n)
			pool[level] = append(pool[level], at)
			wrong += w.asks(at, all)
			w.whole(at)
		}
		if wrong == 0 {
			t.Error("nothing was wrong")
		}
	})
}

// TestFullDisk does a batch for which a disk of some sizes has no room, in the epoch of the tree, and in the next one: then nothing is changed.
func TestFullDisk(t *testing.T) {
	seeds(t, 4, func(t *testing.T, seed int) {
		spare, later := seed%2 == 1, seed/2
		keys := keysOf(60)
		fine, short := 0, 0
		for n := 4; n < 130; n += 5 {
			w := newWorld(t, n, false)
			w.p = made(t, n, min(n-2, 5))
			w.p.Spare = spare
			for i := 0; i < min(len(keys), n/2); i += 5 {
				if !w.try(sets(keys[i:i+5], func(j int) string { return value((i+j)*9, i) })...) {
					break
				}
			}
			w.p.Epoch += later
			if !w.try(sets(keys, func(i int) string { return value(i*12, i) })...) {
				short++
				continue
			}
			fine++
			if !spare && w.p.Alloc.Free() < min(n-2, 5) {
				t.Errorf("%d sectors: %d are free", n, w.p.Alloc.Free())
			}
		}
		if fine == 0 || short == 0 {
			t.Errorf("%d batches had room, %d had not", fine, short)
		}
	})
}

// try does edits, if there is room for them; else nothing may be changed.
func (w *world) try(l ...cow.Edit) bool {
	w.t.Helper()
	was, bytesWere := stateOf(w.p), whole(w.t, w.p.Disk)
	mark := w.p.Alloc.Mark()
	_, e := cow.Apply(w.p, w.root, l)
	if e == api.ErrSpace {
		if !stateOf(w.p).same(was) || !bytes.Equal(whole(w.t, w.p.Disk), bytesWere) {
			w.t.Fatalf("without room: the pool was %v, is %v", was, stateOf(w.p))
		}
		w.holds(w.root, w.must(w.root))
		return false
	}
	// Once more, with all that is asked of a batch.
	w.p.Alloc.Undo(mark)
	w.p.Killed = was.killed
	for at := range w.p.Disk.Len() {
		if e := w.p.Disk.Write(at, bytesWere[at*size:at*size+size]); e != api.OK {
			w.t.Fatal(e)
		}
	}
	w.step(l...)
	return true
}

// TestOwnRoom: what is killed of the epoch makes room for what is laid.
func TestOwnRoom(t *testing.T) {
	p := made(t, 10, 0)
	root := api.Pointer{}
	for i := range 20 {
		at, e := cow.Apply(p, root, []cow.Edit{set("a", value(maxValue, i)), set("b", value(maxValue, i)), set("c", value(maxValue, i))})
		if e != api.OK {
			t.Fatalf("Apply = %v", e)
		}
		root = at
	}
	if p.Alloc.Used() != 7 || len(p.Killed) != 0 {
		t.Errorf("in use are %d, killed are %v", p.Alloc.Used(), p.Killed)
	}
}

// TestCut lets the power go at each write of an Apply: elder trees stay, behind a crash too.
func TestCut(t *testing.T) {
	w := newWorld(t, 2000, false)
	keys := keysOf(200)
	w.step(sets(keys, func(i int) string { return value(i%90, i) })...)
	w.p.Epoch++
	w.step(gones(keys[50:90])...)
	if e := w.p.Disk.Flush(); e != api.OK {
		t.Fatal(e)
	}
	w.p.Epoch++
	l := sets(keys[20:120], func(i int) string { return value(i%190, i) })
	for n := 0; ; n++ {
		d, e := w.p.Disk.Crash(nil)
		if e != api.OK {
			t.Fatal(e)
		}
		p := &cow.Pool{Disk: d, Alloc: w.p.Alloc, Epoch: w.p.Epoch}
		mark := p.Alloc.Mark()
		d.Fuse(n)
		was := stateOf(p)
		root, e := cow.Apply(p, w.root, l)
		if e != api.OK && !stateOf(p).same(was) {
			t.Errorf("a fuse of %d: the pool was %v, is %v", n, was, stateOf(p))
		}
		keep := []int{}
		for i := range d.Waiting() {
			keep = append(keep, (i*97+n)%600)
		}
		crashed, ce := d.Crash(keep)
		if ce != api.OK {
			t.Fatal(ce)
		}
		for _, x := range []*disk.Disk{d, crashed} {
			old := *w
			old.p = &cow.Pool{Disk: x, Alloc: p.Alloc, Epoch: p.Epoch}
			old.elders()
		}
		p.Alloc.Undo(mark)
		if e == api.OK {
			if n < 10 {
				t.Errorf("Apply took %d writes", n)
			}
			return
		}
		if root != (api.Pointer{}) || e != api.ErrCut {
			t.Fatalf("a fuse of %d: Apply = %v, %v", n, root, e)
		}
	}
}

// TestKillErrors: an alloc that does not know of the nodes.
func TestKillErrors(t *testing.T) {
	w := newWorld(t, 100, false)
	w.step(set("a", "1"), set("b", "2"))
	for _, x := range []struct {
		from int
		want api.Errno
	}{{2, api.ErrNone}, {50, api.ErrArg}} {
		a, e := alloc.New(x.from, 100, 0)
		if e != api.OK {
			t.Fatal(e)
		}
		p := &cow.Pool{Disk: w.p.Disk, Alloc: a, Epoch: 1}
		for _, l := range [][]cow.Edit{{set("c", "3")}, {gone("a")}, {gone("a"), gone("b")}} {
			unchanged(t, "Apply", p, func() {
				if root, e := cow.Apply(p, w.root, l); root != (api.Pointer{}) || e != x.want {
					t.Errorf("Apply = %v, %v; want %v", root, e, x.want)
				}
			})
		}
		if root, e := cow.Apply(p, w.root, []cow.Edit{set("a", "1"), gone("x")}); e != api.OK || root == (api.Pointer{}) {
			t.Errorf("Apply of what changes nothing = %v, %v", root, e)
		}
	}
}

// TestKillErrorBehind: a node that can't be killed behind one that can.
func TestKillErrorBehind(t *testing.T) {
	w := newWorld(t, 200, false)
	kids := []api.Pointer{store(t, w.p, big()), store(t, w.p, node("h", "j"))}
	w.p.Epoch = 2
	w.adopt(store(t, w.p, over(1, []string{"a", "h"}, kids...)))
	if e := w.p.Alloc.Give(span(w.root)); e != api.OK {
		t.Fatal(e)
	}
	w.p.Killed = []api.Pointer{{At: 100, Birth: 1, Length: 5}}
	unchanged(t, "Apply", w.p, func() {
		if root, e := cow.Apply(w.p, w.root, []cow.Edit{set("b", "new"), set("i", "new")}); root != (api.Pointer{}) || e != api.ErrNone {
			t.Errorf("Apply = %v, %v", root, e)
		}
	})
}

// TestNoEpoch: an epoch in which nothing can be laid.
func TestNoEpoch(t *testing.T) {
	for _, epoch := range []int{0, -1, math.MinInt, lastEpoch + 1, math.MaxInt} {
		w := newWorld(t, 100, false)
		w.step(set("a", "1"), set("b", "2"))
		w.p.Epoch = epoch
		root := w.root
		for _, at := range []api.Pointer{root, {}} {
			for _, l := range [][]cow.Edit{{set("c", "3")}, sets(keysOf(60), func(int) string { return value(90, 1) })} {
				unchanged(t, "Apply", w.p, func() {
					if at, e := cow.Apply(w.p, at, l); at != (api.Pointer{}) || e != api.ErrArg {
						t.Errorf("Apply in the epoch %d = %v, %v", epoch, at, e)
					}
				})
			}
		}
		w.p.Killed = nil
		w.step(gone("a"), gone("b"))
		if !slices.Equal(w.p.Killed, []api.Pointer{root}) {
			t.Errorf("killed are %v", w.p.Killed)
		}
	}
}

// TestKept: an elder tree is told byte by byte, whatever is done later, as long as nothing is given back.
func TestKept(t *testing.T) {
	w := newWorld(t, 3000, false)
	keys := keysOf(300)
	w.step(sets(keys, func(i int) string { return value(i%90, i) })...)
	first := w.must(w.root)
	was := map[api.Pointer]string{}
	for _, at := range first.nodes {
		was[at] = string(lies(t, w.p.Disk, at))
	}
	for i := range 12 {
		w.p.Epoch++
		w.step(gones(keys[i*20 : i*20+30])...)
		for at, b := range was {
			if string(lies(t, w.p.Disk, at)) != b {
				t.Fatalf("%v is another one", at)
			}
		}
	}
	w.elders()
	if len(slices.Collect(maps.Keys(was))) < 5 {
		t.Errorf("the first tree has %d nodes", len(was))
	}
}
