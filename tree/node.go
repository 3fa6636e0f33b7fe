package tree

import (
	"cmp"
	"slices"
)

// most entries that a node may have.
const most = 3

// entry: a key, and what it has.
type entry[K cmp.Ordered, V any] struct {
	key K
	val V
}

// node with all below it. Unless it is a leaf, a kid stands ahead of each entry, and one behind the last.
type node[K cmp.Ordered, V any] struct {
	entries []entry[K, V]
	kids    []*node[K, V]
}

func (n *node[K, V]) leaf() bool { return len(n.kids) == 0 }

// place of a key among the entries, or of the kid below which it must be; ok: it is among the entries.
func (n *node[K, V]) place(key K) (i int, ok bool) {
	return slices.BinarySearchFunc(n.entries, key, func(e entry[K, V], key K) int { return cmp.Compare(e.key, key) })
}

// find what a key has, if it is there.
func (n *node[K, V]) find(key K) (val V, ok bool) {
	i, ok := n.place(key)
	if ok {
		return n.entries[i].val, true
	}
	if n.leaf() {
		return val, false
	}
	return n.kids[i].find(key)
}

// each entry is visited, in their order.
func (n *node[K, V]) each(visit func(entry[K, V])) {
	for i, e := range n.entries {
		if !n.leaf() {
			n.kids[i].each(visit)
		}
		visit(e)
	}
	if !n.leaf() {
		n.kids[len(n.entries)].each(visit)
	}
}

// rising tells whether the keys rise, each but once.
func rising[K cmp.Ordered, V any](n *node[K, V]) bool {
	var keys []K
	n.each(func(e entry[K, V]) { keys = append(keys, e.key) })
	for i := 1; i < len(keys); i++ {
		if keys[i-1] >= keys[i] {
			return false
		}
	}
	return true
}

// depth of the leaves; even: all have the same.
func (n *node[K, V]) depth() (deep int, even bool) {
	if n.leaf() {
		return 0, true
	}
	deep, even = n.kids[0].depth()
	for _, kid := range n.kids[1:] {
		d, e := kid.depth()
		even = even && e && d == deep
	}
	return deep + 1, even
}

// with: the root of what is below a root, with an entry, which takes the place of one with the same key.
func with[K cmp.Ordered, V any](root *node[K, V], e entry[K, V]) *node[K, V] {
	top := &node[K, V]{kids: []*node[K, V]{root}} // takes what comes up, if the root has to be parted
	top.put(e)
	return top.lowered()
}

// without: the root of what is below a root, without a key that is there.
func without[K cmp.Ordered, V any](root *node[K, V], key K) *node[K, V] {
	root.cut(key)
	return root.lowered()
}

// lowered: the root below one that has no entries, if any is.
func (n *node[K, V]) lowered() *node[K, V] {
	if len(n.entries) == 0 && !n.leaf() {
		return n.kids[0]
	}
	return n
}

// put an entry. It may be one too many, which the node above must mend.
func (n *node[K, V]) put(e entry[K, V]) {
	i, there := n.place(e.key)
	switch {
	case there:
		n.entries[i] = e
	case n.leaf():
		n.entries = slices.Insert(n.entries, i, e)
	default:
		n.kids[i].put(e)
		n.partKid(i)
	}
}

// cut a key that is there. No entry may be left, which the node above must mend.
func (n *node[K, V]) cut(key K) {
	i, there := n.place(key)
	if n.leaf() {
		n.entries = slices.Delete(n.entries, i, i+1)
		return
	}
	if there { // only leaves can do without an entry: the one ahead, which is in a leaf, takes its place
		n.entries[i] = n.kids[i].last()
		key = n.entries[i].key
	}
	n.kids[i].cut(key)
	n.fillKid(i)
}

// last entry of all.
func (n *node[K, V]) last() entry[K, V] {
	if n.leaf() {
		return n.entries[len(n.entries)-1]
	}
	return n.kids[len(n.kids)-1].last()
}

// partKid: a kid with too many entries becomes two, with its middle entry between them.
func (n *node[K, V]) partKid(i int) {
	if len(n.kids[i].entries) <= most {
		return
	}
	left, middle, right := parted(n.kids[i])
	n.entries = slices.Insert(n.entries, i, middle)
	n.kids = slices.Replace(n.kids, i, i+1, left, right)
}

// fillKid: a kid without entries becomes one with its neighbour and the entry between them; what is too much for one is parted anew.
func (n *node[K, V]) fillKid(i int) {
	if len(n.kids[i].entries) > 0 {
		return
	}
	i = max(i-1, 0) // where the left one of the two stands
	n.kids[i] = joined(n.kids[i], n.entries[i], n.kids[i+1])
	n.kids = slices.Delete(n.kids, i+1, i+2)
	n.entries = slices.Delete(n.entries, i, i+1)
	n.partKid(i)
}

// parted: what stands ahead of a node's middle entry, this entry, and what stands behind it. The two are of memory of their own, so that one may grow.
func parted[K cmp.Ordered, V any](n *node[K, V]) (left *node[K, V], middle entry[K, V], right *node[K, V]) {
	i := len(n.entries) / 2
	left = &node[K, V]{entries: slices.Clone(n.entries[:i])}
	right = &node[K, V]{entries: slices.Clone(n.entries[i+1:])}
	if !n.leaf() {
		left.kids, right.kids = slices.Clone(n.kids[:i+1]), slices.Clone(n.kids[i+1:])
	}
	return left, n.entries[i], right
}

// joined: two nodes as one, with an entry between them.
func joined[K cmp.Ordered, V any](left *node[K, V], middle entry[K, V], right *node[K, V]) *node[K, V] {
	return &node[K, V]{
		entries: slices.Concat(left.entries, []entry[K, V]{middle}, right.entries),
		kids:    slices.Concat(left.kids, right.kids),
	}
}
