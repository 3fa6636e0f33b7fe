package tree

import (
	"math/rand"
	"slices"
	"testing"

	"chirograph/api"
	"chirograph/sample"
)

// shape of a node: how many keys it has, and the shapes of its kids.
type shape struct {
	keys int
	kids []shape
}

// shapes of all nodes with n keys in them and below, in so many levels.
func shapes(n, levels int) []shape {
	var l []shape
	for keys := 1; keys <= 3 && keys <= n; keys++ {
		if levels == 1 {
			if keys == n {
				l = append(l, shape{keys: n})
			}
			continue
		}
		for _, kids := range families(n-keys, keys+1, levels-1) {
			l = append(l, shape{keys, kids})
		}
	}
	return l
}

// families of so many kids with n keys in all, each in so many levels.
func families(n, kids, levels int) [][]shape {
	if kids == 0 {
		if n == 0 {
			return [][]shape{nil}
		}
		return nil
	}
	var l [][]shape
	for keys := 1; keys <= n; keys++ {
		for _, first := range shapes(keys, levels) {
			for _, rest := range families(n-keys, kids-1, levels) {
				l = append(l, append([]shape{first}, rest...))
			}
		}
	}
	return l
}

// keyed: a tree of a shape, whose keys are some letters each; level by level, or each node's kids from behind.
func keyed(s shape, byLevels bool) api.Tree {
	tree := api.Tree{Nodes: []api.Node{{}}}
	next := 0
	var grow func(s shape, at int)
	grow = func(s shape, at int) {
		n := api.Node{}
		for i := range s.kids {
			tree.Nodes = append(tree.Nodes, api.Node{})
			n.Kids = append(n.Kids, len(tree.Nodes)-1)
			if !byLevels {
				n.Kids = slices.Insert(n.Kids[:i], 0, len(tree.Nodes)-1)
			}
		}
		for i := range s.keys {
			if len(s.kids) > 0 {
				grow(s.kids[i], n.Kids[i])
			}
			n.Keys, n.Vals = append(n.Keys, string([]byte{byte('b' + 2*next)})), append(n.Vals, 10*next+7)
			next++
		}
		if len(s.kids) > 0 {
			grow(s.kids[s.keys], n.Kids[s.keys])
		}
		tree.Nodes[at] = n
	}
	grow(s, 0)
	return tree
}

// TestEachShape: P12.1 to P12.5 of each tree with up to 14 keys, and of some with more: each key cut, and one put at each place.
func TestEachShape(t *testing.T) {
	seen := 0
	for n := 1; n <= 17; n++ {
		for deep := 1; deep <= 4; deep++ {
			for i, s := range shapes(n, deep) {
				if n > 14 && i%(1<<(n-14)) > 0 {
					continue
				}
				seen++
				tree := keyed(s, i%2 == 0)
				l := pairsOf(tree, 0)
				for j, p := range l {
					if p != (api.Pair{Key: string([]byte{byte('b' + 2*j)}), Val: 10*j + 7}) {
						t.Fatalf("%+v is not as it should be", tree)
					}
				}
				mustHave(t, tree, l)
				for j := range 2*n + 1 {
					key := string([]byte{byte('a' + j)})
					mustPut(t, tree, key, -j)
					mustCut(t, tree, key)
				}
				if all, why := List(tree, "", "\xff"); !slices.Equal(all, l) || why != api.OK {
					t.Fatalf("List(%+v) = %+v %d", tree, all, why)
				}
			}
		}
	}
	if seen < 1000 {
		t.Errorf("only %d trees", seen)
	}
}

// second way of saying what P12.1 does: the tree is unfolded from its root down, as far as it can be; what comes of it must have each node once.
func second(tree api.Tree) api.Errno {
	keys, ok := 0, true
	for _, n := range tree.Nodes {
		for _, key := range n.Keys {
			ok = ok && len(key) <= api.MaxKey
			keys++
		}
	}
	if !ok || keys > api.MaxKeys || len(tree.Nodes) > api.MaxKeys {
		return api.ErrSize
	}
	if len(tree.Nodes) == 0 {
		return api.OK
	}
	u := unfolded{tree: tree}
	u.node(0, -1, 0)
	slices.Sort(u.nodes)
	slices.Sort(u.deep)
	distinct := slices.Compact(slices.Sorted(slices.Values(u.keys)))
	all := len(u.nodes) == len(tree.Nodes) && len(slices.Compact(u.nodes)) == len(tree.Nodes)
	if u.wrong || !all || u.deep[0] != u.deep[len(u.deep)-1] || !slices.Equal(distinct, u.keys) {
		return api.ErrForm
	}
	return api.OK
}

// unfolded: what has been come to.
type unfolded struct {
	tree  api.Tree
	nodes []int
	keys  []string
	deep  []int
	wrong bool
}

// node at a place, below another one, so deep.
func (u *unfolded) node(at, above, deep int) {
	if at <= above || at >= len(u.tree.Nodes) || len(u.nodes) > api.MaxKeys {
		u.wrong = true
		return
	}
	u.nodes = append(u.nodes, at)
	n := u.tree.Nodes[at]
	if len(n.Keys) < 1 || len(n.Keys) > 3 || len(n.Vals) != len(n.Keys) {
		u.wrong = true
		return
	}
	switch len(n.Kids) {
	case 0:
		u.keys = append(u.keys, n.Keys...)
		u.deep = append(u.deep, deep)
	case len(n.Keys) + 1:
		for i, kid := range n.Kids {
			u.node(kid, at, deep+1)
			if i < len(n.Keys) {
				u.keys = append(u.keys, n.Keys[i])
			}
		}
	default:
		u.wrong = true
	}
}

// changed: a copy of a tree with some changes by chance, after which it may be good still.
func changed(r *rand.Rand, tree api.Tree) api.Tree {
	tree = sample.CopyOfTree(tree)
	for range r.Intn(3) + 1 {
		nodes := tree.Nodes
		if len(nodes) == 0 {
			return api.Tree{Nodes: make([]api.Node, r.Intn(2))}
		}
		at, other := r.Intn(len(nodes)), r.Intn(len(nodes))
		n := &nodes[at]
		switch r.Intn(8) {
		case 0: // all places stay right, if the two are made to change
			if at > 0 && other > 0 {
				nodes[at], nodes[other] = nodes[other], nodes[at]
				for i := range nodes {
					for j, kid := range nodes[i].Kids {
						switch kid {
						case at:
							nodes[i].Kids[j] = other
						case other:
							nodes[i].Kids[j] = at
						}
					}
				}
			}
		case 1:
			if len(n.Kids) > 0 {
				n.Kids[r.Intn(len(n.Kids))] = other
			}
		case 2:
			if len(n.Keys) > 0 {
				n.Keys[r.Intn(len(n.Keys))] += string([]byte{byte(r.Intn(256))})
			}
		case 3:
			n.Keys, n.Vals = append(n.Keys, "\xff"), append(n.Vals, 1)
		case 4:
			if i := len(n.Keys) - 1; i >= 0 && len(n.Vals) > i {
				n.Keys, n.Vals = n.Keys[:i], n.Vals[:i]
			}
		case 5:
			tree.Nodes = append(nodes, sample.Node("\xfe"))
			n.Kids = append(n.Kids, len(nodes))
		case 6:
			if i := len(n.Keys) - 1; i >= 0 && len(nodes[other].Keys) > 0 {
				n.Keys[i], nodes[other].Keys[0] = nodes[other].Keys[0], n.Keys[i]
			}
		case 7:
			if r.Intn(10) == 0 && len(n.Keys) > 0 {
				n.Keys[0] += sample.Long(api.MaxKey - r.Intn(2))
			}
		}
	}
	return tree
}

// TestChanged: P12.1, of trees that are changed by chance, against the second way.
func TestChanged(t *testing.T) {
	r := rand.New(rand.NewSource(12))
	seen := map[api.Errno]int{}
	var all []api.Tree
	for n := 1; n <= 17; n++ {
		for deep := 1; deep <= 4; deep++ {
			for i, s := range shapes(n, deep) {
				if i < 20 {
					all = append(all, keyed(s, i%2 == 0))
				}
			}
		}
	}
	all = append(all, full(t), sample.Tree())
	for range 200_000 {
		tree := changed(r, all[r.Intn(len(all))])
		why := Check(tree)
		if want := second(tree); why != want {
			t.Fatalf("Check(%+v) = %d, want %d", tree, why, want)
		}
		seen[why]++
	}
	if seen[api.OK] < 10_000 || seen[api.ErrForm] < 10_000 || seen[api.ErrSize] < 100 || len(seen) != 3 {
		t.Errorf("too few of some: %v", seen)
	}
}

// TestComeAndGo: P12.2 to P12.5, keys that come and go by chance, up to a full tree and down to the empty one, against a map.
func TestComeAndGo(t *testing.T) {
	r := rand.New(rand.NewSource(5))
	fullOnce, emptyOnce := 0, 0
	for round := range 30 {
		tree, has := api.Tree{}, map[string]int{}
		for step := range 800 {
			key := keyBy(r, round)
			if l := pairsOf(tree, 0); step >= 400 && len(l) > 0 && r.Intn(2) == 0 {
				key = l[r.Intn(len(l))].Key
			}
			_, there := has[key]
			if r.Intn(10) < 8 == (step < 400) {
				val := r.Intn(1000) - 500
				more, why := Put(tree, key, val)
				if !there && len(has) == api.MaxKeys {
					fullOnce++
					if why != api.ErrFull || len(more.Nodes) != 0 {
						t.Fatalf("Put(%q) into a full tree = %+v %d", key, more, why)
					}
					continue
				}
				if again, _ := Put(tree, key, val); why != api.OK || !sample.SameTree(more, again) {
					t.Fatalf("Put(%+v, %q) = %d, %+v and %+v", tree, key, why, more, again)
				}
				tree, has[key] = more, val
			} else {
				less, why := Cut(tree, key)
				if !there {
					if why != api.ErrNone || len(less.Nodes) != 0 {
						t.Fatalf("Cut(%q) = %+v %d", key, less, why)
					}
					continue
				}
				if again, _ := Cut(tree, key); why != api.OK || !sample.SameTree(less, again) {
					t.Fatalf("Cut(%+v, %q) = %d, %+v and %+v", tree, key, why, less, again)
				}
				delete(has, key)
				tree = less
				if len(has) == 0 {
					emptyOnce++
				}
			}
			mustBe(t, tree, has, key)
		}
	}
	if fullOnce < 100 || emptyOnce < 100 {
		t.Errorf("full %d times, empty %d times", fullOnce, emptyOnce)
	}
}

// keyBy chance: of few or of many.
func keyBy(r *rand.Rand, round int) string {
	switch round % 3 {
	case 0:
		return string([]byte{byte(r.Intn(30))})
	case 1:
		return string([]byte{byte('a' + r.Intn(12)), byte(r.Intn(10))})
	}
	return sample.Long((api.MaxKey-2)*r.Intn(2)) + string([]byte{byte(r.Intn(40)), byte(r.Intn(2))})
}

// mustBe a tree of what a map has; a key is asked for by itself, too.
func mustBe(t *testing.T, tree api.Tree, has map[string]int, key string) {
	t.Helper()
	var want []api.Pair
	for k, v := range has {
		want = append(want, api.Pair{Key: k, Val: v})
	}
	slices.SortFunc(want, func(a, b api.Pair) int {
		if a.Key < b.Key {
			return -1
		}
		return 1
	})
	mustHave(t, tree, want)
	if second(tree) != api.OK {
		t.Fatalf("%+v may not be", tree)
	}
	val, why := Find(tree, key)
	if v, there := has[key]; val != v || there != (why == api.OK) || !there && why != api.ErrNone {
		t.Fatalf("Find(%+v, %q) = %d %d", tree, key, val, why)
	}
	i, _ := placeIn(want, key)
	if l, why := List(tree, key, "\xff"); why != api.OK || !slices.Equal(l, want[i:]) {
		t.Fatalf("List(%+v, %q) = %+v %d", tree, key, l, why)
	}
}
