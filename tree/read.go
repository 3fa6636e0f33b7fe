package tree

import (
	"slices"
	"strings"

	"chirograph/api"
)

// read a tree, if it may be (P12.1), into nodes that share no list with it. Of the empty one it is a root without entries.
func read(t api.Tree) (*node[string, int], api.Errno) {
	if !small(t.Nodes) {
		return nil, api.ErrSize
	}
	if !linked(t.Nodes) {
		return nil, api.ErrForm
	}
	root := &node[string, int]{}
	if len(t.Nodes) > 0 {
		root = branch(t.Nodes, 0)
	}
	if _, even := root.depth(); !even || !rising(root) {
		return nil, api.ErrForm
	}
	return root, api.OK
}

// small tells whether there are no more nodes, keys and bytes of a key than there may be.
func small(nodes []api.Node) bool {
	tooLong := func(key string) bool { return len(key) > api.MaxKey }
	for _, n := range nodes {
		if slices.ContainsFunc(n.Keys, tooLong) {
			return false
		}
	}
	return len(nodes) <= api.MaxKeys && keysOf(nodes) <= api.MaxKeys
}

// keysOf all nodes, how many there are.
func keysOf(nodes []api.Node) int {
	n := 0
	for _, node := range nodes {
		n += len(node.Keys)
	}
	return n
}

// linked tells whether each node has as many of everything as it may, and all but the first hang together below it, each at one place. As kids stand behind, it is known of a node, when it is come to, whether it hangs below another.
func linked(nodes []api.Node) bool {
	hangs := make([]bool, len(nodes))
	for i, n := range nodes {
		if !whole(n) || i > 0 && !hangs[i] {
			return false
		}
		for _, kid := range n.Kids {
			if kid <= i || kid >= len(nodes) || hangs[kid] {
				return false
			}
			hangs[kid] = true
		}
	}
	return true
}

// whole tells whether a node has as many keys, vals and kids as it may.
func whole(n api.Node) bool {
	keys, kids := len(n.Keys), len(n.Kids)
	return keys > 0 && keys <= most && len(n.Vals) == keys && (kids == 0 || kids == keys+1)
}

// branch: a node of those that are linked, with all below it.
func branch(nodes []api.Node, at int) *node[string, int] {
	n := &node[string, int]{}
	for i, key := range nodes[at].Keys {
		n.entries = append(n.entries, entry[string, int]{key, nodes[at].Vals[i]})
	}
	for _, kid := range nodes[at].Kids {
		n.kids = append(n.kids, branch(nodes, kid))
	}
	return n
}

// show the nodes from a root on as a tree.
func show(root *node[string, int]) api.Tree {
	if len(root.entries) == 0 {
		return api.Tree{}
	}
	return api.Tree{Nodes: laid(nil, root)}
}

// laid: nodes, and behind them another one with all below it, which stands behind it, as kids must.
func laid(nodes []api.Node, n *node[string, int]) []api.Node {
	at, shown := len(nodes), api.Node{}
	for _, e := range n.entries {
		shown.Keys = append(shown.Keys, strings.Clone(e.key))
		shown.Vals = append(shown.Vals, e.val)
	}
	nodes = append(nodes, shown)
	for _, kid := range n.kids {
		nodes[at].Kids = append(nodes[at].Kids, len(nodes))
		nodes = laid(nodes, kid)
	}
	return nodes
}
