package sample

import (
	"math"
	"slices"

	"chirograph/api"
)

// Node of keys of a byte each, which have that byte, and of kids.
func Node(keys string, kids ...int) api.Node {
	n := api.Node{Kids: kids}
	for i := range len(keys) {
		n.Keys = append(n.Keys, keys[i:i+1])
		n.Vals = append(n.Vals, int(keys[i]))
	}
	return n
}

// Tree of nodes, which need not be one that may be.
func Tree(nodes ...api.Node) api.Tree { return api.Tree{Nodes: nodes} }

// Trees that may be: the empty one, each number of keys and kids, kids in any order, and keys of any bytes.
func Trees() []api.Tree {
	a, c, e, g := Node("a"), Node("c"), Node("e"), Node("g")
	odd := func(keys ...string) api.Tree {
		return Tree(api.Node{Keys: keys, Vals: []int{math.MinInt, -1, math.MaxInt}[:len(keys)]})
	}
	return []api.Tree{
		Tree(), Tree(a), Tree(Node("ab")), Tree(Node("abc")),
		Tree(Node("b", 1, 2), a, c), Tree(Node("b", 2, 1), c, a), Tree(Node("d", 1, 2), Node("abc"), Node("efg")), Tree(Node("c", 1, 2), Node("ab"), Node("d")),
		Tree(Node("bd", 1, 2, 3), a, c, e), Tree(Node("bd", 3, 1, 2), c, e, a), Tree(Node("bf", 1, 2, 3), a, Node("cde"), g),
		Tree(Node("bdf", 1, 2, 3, 4), a, c, e, g), Tree(Node("bdf", 4, 3, 2, 1), g, e, c, a), Tree(Node("bdg", 2, 4, 1, 3), Node("ef"), a, Node("hij"), c),
		Tree(Node("d", 1, 2), Node("b", 3, 4), Node("f", 5, 6), a, c, e, g),
		Tree(Node("d", 1, 4), Node("b", 2, 3), a, c, Node("f", 5, 6), e, g),
		Tree(Node("d", 2, 1), Node("fh", 3, 6, 7), Node("b", 5, 4), e, c, a, g, Node("ijk")),
		odd(""), odd("", "\x00"), odd("", "\x00", "\x00\x00"), odd("a", "a\x00", "aa"), odd("ab", "b", "ba"), odd("\x00", "\x7f\xff", "\x80"), odd("a", "\u00e9", "\xff"),
		odd(Long(api.MaxKey)), odd("x", Long(api.MaxKey-1), Long(api.MaxKey)),
	}
}

// WrongTrees that may not be, and why.
func WrongTrees() map[api.Errno][]api.Tree {
	a, b, c, tooLong := Node("a"), Node("b"), Node("c"), api.Node{Keys: []string{Long(api.MaxKey + 1)}, Vals: []int{1}}
	alike := slices.Repeat([]string{"a"}, api.MaxKeys+1)
	var twice []api.Node // each below the one ahead of it, two times: who goes down all ways comes to no end
	for i := range api.MaxKeys - 1 {
		twice = append(twice, Node("b", i+1, i+1))
	}
	return map[api.Errno][]api.Tree{
		api.ErrSize: {
			Tree(tooLong), Tree(Node("b", 1, 2), a, tooLong), Tree(Node("b", 1, 1), a, tooLong), Tree(Node("", -1), tooLong), Tree(api.Node{Keys: []string{"a", "b", "c", Long(1000)}}),
			Tree(make([]api.Node, api.MaxKeys+1)...), Tree(slices.Repeat([]api.Node{a}, api.MaxKeys+1)...),
			Tree(api.Node{Keys: alike}), Tree(api.Node{Keys: alike[:api.MaxKeys]}, a), Tree(a, api.Node{}, api.Node{Keys: alike[:api.MaxKeys]}),
		},
		api.ErrForm: {
			Tree(make([]api.Node, api.MaxKeys)...), Tree(slices.Repeat([]api.Node{a}, api.MaxKeys)...), Tree(api.Node{Keys: alike[:api.MaxKeys]}),
			Tree(Node("")), Tree(Node("abcd")), Tree(Node("", 1), a), Tree(Node("bdfh", 1, 2, 3, 4, 5), a, c, Node("e"), Node("g"), Node("i")),
			Tree(api.Node{Keys: []string{"a"}}), Tree(api.Node{Vals: []int{1}}), Tree(api.Node{Keys: []string{"a"}, Vals: []int{1, 2}}), Tree(api.Node{Keys: []string{"a", "b"}, Vals: []int{1}}),
			Tree(Node("b", 1), a), Tree(Node("b", 1, 2, 3), a, c, Node("d")), Tree(Node("bd", 1, 2), a, c), Tree(Node("bd", 1, 2, 3, 4), a, c, Node("e"), Node("f")),
			Tree(Node("b", 0, 1), a), Tree(Node("b", 1, 0), c), Tree(Node("b", 0, 0)), Tree(Node("a", 0)), Tree(Node("b", 1, 1), a), Tree(Node("b", 1, 1), a, c), Tree(Node("b", 1, 2), a, Node("c", 1, 1)), Tree(Node("b", 1, 2), a, Node("d", 2, 0)), Tree(append(twice, b)...),
			Tree(Node("b", -1, 1), a), Tree(Node("b", 1, 2), a), Tree(Node("b", 1, math.MaxInt), a), Tree(Node("b", math.MinInt, 1), c), Tree(Node("b", 1, 1<<32+2), a, c), Tree(Node("b", 1, 258), a, c),
			Tree(a, b), Tree(Node("b", 1, 2), a, c, Node("d")), Tree(Node("b", 2, 3), Node("0"), a, c), Tree(a, Node("c", 2, 3), b, Node("d")),
			Tree(Node("b", 1, 2), a, Node("d", 3, 4), c, Node("e")), Tree(Node("d", 1, 2), Node("b", 3, 4), Node("e"), a, c), Tree(Node("bf", 1, 2, 3), a, Node("d", 4, 5), Node("g"), c, Node("e")),
			Tree(Node("h", 1, 2), Node("d", 3, 4), Node("j", 5, 6), b, Node("f", 7, 8), Node("i"), Node("k"), Node("e"), Node("g")), Tree(Node("d", 1, 2), b, Node("h", 3, 4), Node("f"), Node("j")),
			Tree(Node("d", 1, 2), b, Node("h", 3, 4), Node("f"), Node("j", 5, 6), Node("i"), Node("k")), Tree(Node("d", 1, 2), Node("b", 3, 4), Node("h", 5, 6), a, c, Node("f"), Node("j", 7, 8), Node("i"), Node("k")),
			Tree(Node("aa")), Tree(Node("ba")), Tree(Node("acb")), Tree(Node("abb")), Tree(Node("b", 1, 2), c, a), Tree(Node("b", 1, 2), b, c), Tree(Node("b", 1, 2), a, b), Tree(Node("b", 1, 2), Node("ac"), Node("d")), Tree(Node("c", 1, 2), a, Node("bd")),
		},
	}
}

// CopyOfTree that shares no list with it.
func CopyOfTree(t api.Tree) api.Tree {
	nodes := slices.Clone(t.Nodes)
	for i, n := range nodes {
		nodes[i] = api.Node{Keys: slices.Clone(n.Keys), Vals: slices.Clone(n.Vals), Kids: slices.Clone(n.Kids)}
	}
	return Tree(nodes...)
}

// RoomyTree: a copy with spare room behind each list, that something stands in.
func RoomyTree(t api.Tree) api.Tree {
	t = CopyOfTree(t)
	for i, n := range t.Nodes {
		t.Nodes[i] = api.Node{
			Keys: append(n.Keys, "spare")[:len(n.Keys)],
			Vals: append(n.Vals, 77)[:len(n.Vals)],
			Kids: append(n.Kids, 77)[:len(n.Kids)],
		}
	}
	return Tree(append(t.Nodes, Node("s"), Node("t"))[:len(t.Nodes)]...)
}

// WholeTree: a copy with the spare room of each list.
func WholeTree(t api.Tree) api.Tree {
	nodes := t.Nodes[:cap(t.Nodes)]
	whole := make([]api.Node, len(nodes))
	for i, n := range nodes {
		whole[i] = api.Node{Keys: n.Keys[:cap(n.Keys)], Vals: n.Vals[:cap(n.Vals)], Kids: n.Kids[:cap(n.Kids)]}
	}
	return CopyOfTree(Tree(whole...))
}

// SameTree tells whether two trees have the same nodes; nil is as good as none.
func SameTree(a, b api.Tree) bool {
	return slices.EqualFunc(a.Nodes, b.Nodes, func(a, b api.Node) bool {
		return slices.Equal(a.Keys, b.Keys) && slices.Equal(a.Vals, b.Vals) && slices.Equal(a.Kids, b.Kids)
	})
}

// TreesApart tells whether the lists of a tree that is answered share nothing, spare room neither, with each other or with those of another call.
func TreesApart(of func() api.Tree) bool {
	other := of()
	kept := CopyOfTree(other)
	for i := range kept.Nodes {
		t := of()
		SpoilList(t.Nodes[i].Keys, "spoilt")
		SpoilList(t.Nodes[i].Vals, 77)
		SpoilList(t.Nodes[i].Kids, 77)
		t.Nodes[i] = kept.Nodes[i]
		if !SameTree(t, kept) {
			return false
		}
	}
	SpoilList(of().Nodes, Node("spoilt"))
	return SameTree(other, kept) && SameTree(of(), kept)
}
