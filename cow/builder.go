package cow

import (
	"bytes"
	"slices"

	"shadowbox/api"
	"shadowbox/leaf"
	"shadowbox/part"
	"shadowbox/pointer"
)

const (
	// room is how much the weights of a node's entries are together at most, so that its bytes are not above leaf.Most.
	room = leaf.Most - 4
	// light is what a node's entries are not below, but where it is a root. A child with the longest key weighs less than half of it, so that nodes of light ones have three children at least, and no disk has sectors for more than leaf.Levels.
	light = leaf.Most / 8
	// longest is how many sizes part.Cut takes.
	longest = 65536
)

// node is a node in memory, that is to be laid.
type node struct {
	level int
	row   []entry
}

// entry is a key of a node, and its value, or its child.
type entry struct {
	key, val []byte
	// place is where the child lies; none of a child that is to be laid, which is open.
	place
	open *node
}

// builder makes a tree of another one: first all is read, then what is old is killed, and then the new nodes are laid.
type builder struct {
	*Pool
	old []api.Pointer
}

// planned tells the entry that a tree behind edits would have as a child: of no tree an entry without a child.
func (b *builder) planned(root api.Pointer, l []Edit) (entry, api.Errno) {
	x := entry{place: top(root)}
	if pointer.None(root) {
		x.unfold(&node{})
		x.open.merge(l)
	} else if e := b.edit(&x, l); e != api.OK {
		return entry{}, e
	}
	if e := b.raise(&x); e != api.OK {
		return entry{}, e
	}
	if e := b.lower(&x); e != api.OK {
		return entry{}, e
	}
	// A node is not elder than its children: so one that is to be laid can't keep those of later epochs.
	e := b.unfoldAll(x.open, func(at api.Pointer) bool { return at.Birth > b.Epoch })
	return x, e
}

// done does what is planned. Where that can't be, nothing is killed, and no sector taken.
func (b *builder) done(x entry) (api.Pointer, api.Errno) {
	mark, killed := b.Alloc.Mark(), b.Killed
	root, e := b.exchange(x)
	if e != api.OK {
		b.Alloc.Undo(mark)
		b.Killed = killed
	}
	return root, e
}

// exchange kills what is old, and lays what is new. What was born in this epoch makes room at once; but it is not written on ahead of a look at whether there is room for all.
func (b *builder) exchange(x entry) (api.Pointer, api.Errno) {
	for _, at := range b.old {
		if e := b.Kill(at); e != api.OK {
			return api.Pointer{}, e
		}
	}
	mark := b.Alloc.Mark()
	_, e := lay(x, b.claim)
	b.Alloc.Undo(mark)
	if e != api.OK {
		return api.Pointer{}, e
	}
	return lay(x, b.Store)
}

// claim takes the sectors that Store would take, and tells a pointer like the one that it would tell.
func (b *builder) claim(n leaf.Node) (api.Pointer, api.Errno) {
	laid, e := leaf.Put(n)
	if e != api.OK {
		return api.Pointer{}, e
	}
	return b.take(len(laid))
}

// lay lays the child of an entry by store, where it does not lie yet, and tells where it is.
func lay(x entry, store func(n leaf.Node) (api.Pointer, api.Errno)) (api.Pointer, api.Errno) {
	if x.open == nil {
		return x.at, api.OK
	}
	n := leaf.Node{Level: x.open.level}
	for _, y := range x.open.row {
		n.Keys = append(n.Keys, y.key)
		if n.Level == 0 {
			n.Vals = append(n.Vals, y.val)
			continue
		}
		at, e := lay(y, store)
		if e != api.OK {
			return api.Pointer{}, e
		}
		n.Kids = append(n.Kids, at)
	}
	return store(n)
}

// opened reads the child of an entry into memory.
func (b *builder) opened(x entry) (*node, api.Errno) {
	read, e := b.read(x.place)
	if e != api.OK {
		return nil, e
	}
	n := &node{level: read.Level, row: make([]entry, 0, len(read.Keys))}
	for i, key := range read.Keys {
		y := entry{key: key}
		if n.level == 0 {
			y.val = read.Vals[i]
		} else {
			y.place = child(x.place, read, i)
		}
		n.row = append(n.row, y)
	}
	return n, api.OK
}

// unfold lets n be the child of an entry, which does not lie anywhere then.
func (x *entry) unfold(n *node) {
	x.place, x.open = place{}, n
}

// replace lets n, that was made of an entry's child, be it: the one that lies there is old.
func (b *builder) replace(x *entry, n *node) {
	b.old = append(b.old, x.at)
	x.unfold(n)
}

// edit does edits below an entry. Its child is open then, if they changed anything.
func (b *builder) edit(x *entry, l []Edit) api.Errno {
	n, e := b.opened(*x)
	if e != api.OK {
		return e
	}
	changed := false
	if n.level == 0 {
		changed = n.merge(l)
	} else if changed, e = b.editRow(n.row, l); e != api.OK {
		return e
	}
	if changed {
		b.replace(x, n)
	}
	return api.OK
}

// editRow does edits below entries, each below the one that it belongs to, and tells whether anything is changed.
func (b *builder) editRow(row []entry, l []Edit) (bool, api.Errno) {
	changed := false
	for i := range row {
		x, mine := &row[i], l
		if i+1 < len(row) {
			end, _ := slices.BinarySearchFunc(l, row[i+1].key, func(y Edit, key []byte) int { return bytes.Compare(y.Key, key) })
			mine, l = l[:end], l[end:]
		}
		if len(mine) == 0 {
			continue
		}
		was := x.at
		if e := b.edit(x, mine); e != api.OK {
			return false, e
		}
		changed = changed || x.at != was
	}
	return changed, api.OK
}

// merge does edits in a node without children, and tells whether anything is changed.
func (n *node) merge(l []Edit) bool {
	rest, row, changed := n.row, []entry{}, false
	for _, x := range l {
		for len(rest) > 0 && bytes.Compare(rest[0].key, x.Key) < 0 {
			row, rest = append(row, rest[0]), rest[1:]
		}
		was := len(rest) > 0 && bytes.Equal(rest[0].key, x.Key)
		changed = changed || was == x.Gone || was && !bytes.Equal(rest[0].val, x.Val)
		if was {
			rest = rest[1:]
		}
		if !x.Gone {
			row = append(row, entry{key: x.Key, val: x.Val})
		}
	}
	n.row = append(row, rest...)
	return changed
}

// raise lets the open nodes below an entry be neither too big nor too small, and the entry have one child.
func (b *builder) raise(x *entry) api.Errno {
	if x.open == nil {
		return api.OK
	}
	b.settle(x.open)
	for {
		l := x.open.pieces()
		if len(l) < 2 {
			return api.OK
		}
		if x.open.level < leaf.Levels {
			x.unfold(&node{level: x.open.level + 1, row: l})
			continue
		}
		// Only a tree of almost empty nodes, that no Apply made, is so high: all of them are joined.
		if e := b.unfoldAll(x.open, func(api.Pointer) bool { return true }); e != api.OK {
			return e
		}
		b.settle(x.open)
	}
}

// lower takes nodes with one child from the top of what is below an entry, and one without a key.
func (b *builder) lower(x *entry) api.Errno {
	// A child that lies there, and is of level 0, need not be read.
	for x.open != nil || x.isTop || x.level > 0 {
		n, e := x.open, api.OK
		if n == nil {
			n, e = b.opened(*x)
		}
		switch {
		case e != api.OK:
			return e
		case len(n.row) == 0:
			*x = entry{}
			return api.OK
		case n.level == 0 || len(n.row) > 1:
			return api.OK
		case x.open == nil:
			b.replace(x, n)
		}
		*x = n.row[0]
	}
	return api.OK
}

// unfoldAll opens the children of a node that are wanted, and of those that are open their children, and so on.
func (b *builder) unfoldAll(n *node, wanted func(at api.Pointer) bool) api.Errno {
	if n == nil || n.level == 0 {
		return api.OK
	}
	for i := range n.row {
		x := &n.row[i]
		if x.open == nil && wanted(x.at) {
			if e := b.fetch(x); e != api.OK {
				return e
			}
		}
		if e := b.unfoldAll(x.open, wanted); e != api.OK {
			return e
		}
	}
	return api.OK
}

// fetch opens the child of an entry, if it is not open yet.
func (b *builder) fetch(x *entry) api.Errno {
	if x.open != nil {
		return api.OK
	}
	n, e := b.opened(*x)
	if e == api.OK {
		b.replace(x, n)
	}
	return e
}

// settle joins the open children of a node that are side by side, and cuts them anew, so that none is too big, and none light that has a neighbour.
func (b *builder) settle(n *node) {
	if n.level == 0 {
		return
	}
	ahead, rest := []entry{}, n.row
	for len(rest) > 0 {
		if rest[0].open == nil {
			ahead, rest = append(ahead, rest[0]), rest[1:]
			continue
		}
		joined := &node{level: n.level - 1}
		ahead, rest = b.join(joined, ahead, rest)
		ahead = append(ahead, joined.pieces()...)
	}
	n.row = ahead
}

// join takes the open children that rest begins with into one node, and as long as that is light, neighbours of them. It tells what is left of those ahead, and of the rest.
func (b *builder) join(joined *node, ahead, rest []entry) ([]entry, []entry) {
	for {
		for len(rest) > 0 && rest[0].open != nil {
			joined.row = append(joined.row, rest[0].open.row...)
			rest = rest[1:]
		}
		b.settle(joined)
		last := len(ahead) - 1
		switch {
		case !joined.isLight():
			return ahead, rest
		// A neighbour that can't be read is left as it is: nothing asks for it.
		case len(rest) > 0 && b.fetch(&rest[0]) == api.OK:
		case last >= 0 && b.fetch(&ahead[last]) == api.OK:
			joined.row = slices.Concat(ahead[last].open.row, joined.row)
			ahead = ahead[:last]
		default:
			return ahead, rest
		}
	}
}

// pieces tells entries of nodes that have what a node has, and are not too big.
func (n *node) pieces() []entry {
	out := []entry{}
	from := 0
	for _, end := range cut(n.weights()) {
		out = append(out, entry{key: n.row[from].key, open: &node{level: n.level, row: n.row[from:end:end]}})
		from = end
	}
	return out
}

func (n *node) weights() []int {
	out := make([]int, 0, len(n.row))
	for _, x := range n.row {
		out = append(out, leaf.Weight(x.key, x.val, n.level > 0))
	}
	return out
}

// isLight tells whether a node should be joined with a neighbour; one of nothing should not.
func (n *node) isLight() bool {
	sum := 0
	for _, w := range n.weights() {
		sum += w
	}
	return sum > 0 && sum < light
}

// cut tells the ends of pieces of a row, none of which is light but one that is alone.
func cut(weights []int) []int {
	out := []int{}
	from := 0
	for from < len(weights) {
		to := len(weights)
		if to-from > longest {
			// What is left then is not short either.
			to = from + longest/2
		}
		for _, end := range evenly(weights[from:to]) {
			out = append(out, from+end)
		}
		from = to
	}
	return out
}

// evenly cuts a row that is not too long. The last piece may have little: so it, and the one ahead of it, are cut anew; one would not do for both.
func evenly(weights []int) []int {
	ends := part.Cut(weights, room)
	if last := len(ends) - 1; last > 1 {
		from := ends[last-2]
		ends[last-1] = from + part.Cut(weights[from:], room)[0]
	}
	return ends
}
