package tree

import (
	"math"
	"reflect"
	"slices"
	"strings"
	"testing"

	"chirograph/api"
	"chirograph/sample"
)

// mustHave these pairs alone, in a tree that may be and is no deeper than it should.
func mustHave(t *testing.T, tree api.Tree, want []api.Pair) {
	t.Helper()
	if why := Check(tree); why != api.OK {
		t.Fatalf("Check(%+v) = %d", tree, why)
	}
	if l := pairsOf(tree, 0); !slices.Equal(l, want) {
		t.Fatalf("%+v has %+v, want %+v", tree, l, want)
	}
	if deep := levels(tree); float64(deep) > math.Log2(float64(len(want)+1)) {
		t.Fatalf("%d keys in %d levels: %+v", len(want), deep, tree)
	}
}

// pairsOf the nodes from a place on and below, as they stand.
func pairsOf(tree api.Tree, at int) []api.Pair {
	if at >= len(tree.Nodes) {
		return nil
	}
	var l []api.Pair
	n := tree.Nodes[at]
	for i, key := range n.Keys {
		if len(n.Kids) > 0 {
			l = append(l, pairsOf(tree, n.Kids[i])...)
		}
		l = append(l, api.Pair{Key: key, Val: n.Vals[i]})
	}
	if len(n.Kids) > 0 {
		l = append(l, pairsOf(tree, n.Kids[len(n.Keys)])...)
	}
	return l
}

// levels of a tree that may be, on the way down to its first leaf.
func levels(tree api.Tree) int {
	if len(tree.Nodes) == 0 {
		return 0
	}
	deep := 1
	for n := tree.Nodes[0]; len(n.Kids) > 0; n = tree.Nodes[n.Kids[0]] {
		deep++
	}
	return deep
}

// around the keys of some pairs: they, and others ahead of, between and behind them, some longer than a key may be.
func around(l []api.Pair) []string {
	keys := []string{"", "\x00", "\xff", sample.Long(api.MaxKey), sample.Long(api.MaxKey + 1), strings.Repeat("\xff", 1000)}
	for _, p := range l {
		keys = append(keys, p.Key, p.Key+"\x00", p.Key+"x")
		if n := len(p.Key) - 1; n >= 0 {
			keys = append(keys, p.Key[:n], p.Key[:n]+string([]byte{p.Key[n] - 1}))
		}
	}
	slices.Sort(keys)
	return slices.Compact(keys)
}

// placeIn pairs that rise, where a key stands or would; there: it does.
func placeIn(l []api.Pair, key string) (i int, there bool) {
	for i < len(l) && l[i].Key < key {
		i++
	}
	return i, i < len(l) && l[i].Key == key
}

// mustFind of each key around those of a tree what it has, and cut and put it.
func mustFind(t *testing.T, tree api.Tree) {
	t.Helper()
	l := pairsOf(tree, 0)
	for _, key := range around(l) {
		i, there := placeIn(l, key)
		val, why := Find(tree, key)
		if there && (val != l[i].Val || why != api.OK) || !there && (val != 0 || why != api.ErrNone) {
			t.Errorf("Find(%+v, %q) = %d %d", tree, key, val, why)
		}
		mustCut(t, tree, key)
		mustPut(t, tree, key, -5)
	}
}

// mustCut a key out, or say that there is none.
func mustCut(t *testing.T, tree api.Tree, key string) {
	t.Helper()
	l := pairsOf(tree, 0)
	i, there := placeIn(l, key)
	less, why := Cut(tree, key)
	if !there {
		if len(less.Nodes) != 0 || why != api.ErrNone {
			t.Errorf("Cut(%+v, %q) = %+v %d, want none %d", tree, key, less, why, api.ErrNone)
		}
		return
	}
	if why != api.OK {
		t.Fatalf("Cut(%+v, %q) = %d", tree, key, why)
	}
	mustHave(t, less, slices.Delete(l, i, i+1))
}

// mustPut a key, or say why it can't be.
func mustPut(t *testing.T, tree api.Tree, key string, val int) {
	t.Helper()
	l := pairsOf(tree, 0)
	i, there := placeIn(l, key)
	want := api.OK
	switch {
	case len(key) > api.MaxKey:
		want = api.ErrSize
	case !there && len(l) == api.MaxKeys:
		want = api.ErrFull
	}
	more, why := Put(tree, key, val)
	if why != want {
		t.Fatalf("Put(%+v, %q, %d) = %d, want %d", tree, key, val, why, want)
	}
	if want != api.OK {
		if len(more.Nodes) != 0 {
			t.Errorf("Put(%+v, %q, %d) = %+v %d, want none", tree, key, val, more, why)
		}
		return
	}
	if !there {
		l = slices.Insert(l, i, api.Pair{})
	}
	l[i] = api.Pair{Key: key, Val: val}
	mustHave(t, more, l)
}

// mustList from each to each of some keys.
func mustList(t *testing.T, tree api.Tree, keys []string) {
	t.Helper()
	l := pairsOf(tree, 0)
	for _, from := range keys {
		for _, to := range keys {
			var want []api.Pair
			for _, p := range l {
				if p.Key >= from && p.Key <= to {
					want = append(want, p)
				}
			}
			if got, why := List(tree, from, to); !slices.Equal(got, want) || why != api.OK {
				t.Errorf("List(%+v, %q, %q) = %+v %d, want %+v 0", tree, from, to, got, why, want)
			}
		}
	}
}

// full tree: MaxKeys keys of as many bytes as there may be.
func full(t *testing.T) api.Tree {
	t.Helper()
	tree := api.Tree{}
	for i := range api.MaxKeys {
		var why api.Errno
		tree, why = Put(tree, string([]byte{byte(i*37%api.MaxKeys + 100)})+sample.Long(api.MaxKey-1), i)
		if why != api.OK {
			t.Fatalf("key %d: %d", i, why)
		}
	}
	return tree
}

// TestTrees: P12.1 to P12.5 of trees that may be, with each key of them and around them.
func TestTrees(t *testing.T) {
	for _, tree := range append(sample.Trees(), full(t)) {
		l := pairsOf(tree, 0)
		mustHave(t, tree, l)
		mustFind(t, tree)
		keys := around(l)
		if len(l) == api.MaxKeys { // all of these are too many to be asked for two by two
			keys = slices.DeleteFunc(keys, func(key string) bool { return len(key) != api.MaxKey })
		}
		mustList(t, tree, keys)
	}
}

// TestExamples: P12.2 to P12.5, by hand.
func TestExamples(t *testing.T) {
	tree := sample.Tree(sample.Node("d", 2, 1), sample.Node("fg"), sample.Node("b"))
	for key, want := range map[string]int{"b": 98, "d": 100, "f": 102, "g": 103} {
		if val, why := Find(tree, key); val != want || why != api.OK {
			t.Errorf("Find(%q) = %d %d, want %d 0", key, val, why, want)
		}
	}
	b, d, f, g := api.Pair{Key: "b", Val: 98}, api.Pair{Key: "d", Val: 100}, api.Pair{Key: "f", Val: 102}, api.Pair{Key: "g", Val: 103}
	for _, c := range []struct {
		from, to string
		want     []api.Pair
	}{
		{"", "z", []api.Pair{b, d, f, g}}, {"b", "g", []api.Pair{b, d, f, g}}, {"d", "f", []api.Pair{d, f}}, {"c", "e", []api.Pair{d}}, {"d", "d", []api.Pair{d}},
		{"e", "e", nil}, {"f", "d", nil}, {"h", "z", nil}, {"", "a", nil}, {"b\x00", "d\xff", []api.Pair{d}}, {"", "", nil}, {"", sample.Long(1000), []api.Pair{b, d, f, g}}, {"", "da", []api.Pair{b, d}},
	} {
		if l, why := List(tree, c.from, c.to); !slices.Equal(l, c.want) || why != api.OK {
			t.Errorf("List(%q, %q) = %+v %d, want %+v 0", c.from, c.to, l, why, c.want)
		}
	}
	more, why := Put(tree, "e", math.MinInt)
	if why != api.OK {
		t.Fatal(why)
	}
	mustHave(t, more, []api.Pair{b, d, {Key: "e", Val: math.MinInt}, f, g})
	more, why = Put(more, "d", 0)
	if why != api.OK {
		t.Fatal(why)
	}
	mustHave(t, more, []api.Pair{b, {Key: "d"}, {Key: "e", Val: math.MinInt}, f, g})
	less, why := Cut(more, "d")
	if why != api.OK {
		t.Fatal(why)
	}
	mustHave(t, less, []api.Pair{b, {Key: "e", Val: math.MinInt}, f, g})
}

// mustRefuse a tree, whatever is asked of it, with nothing else told.
func mustRefuse(t *testing.T, want api.Errno, tree api.Tree) {
	t.Helper()
	if why := Check(tree); why != want {
		t.Errorf("Check(%+v) = %d, want %d", tree, why, want)
	}
	for _, key := range []string{"", "a", "b", "spare", sample.Long(api.MaxKey + 1)} {
		if val, why := Find(tree, key); val != 0 || why != want {
			t.Errorf("Find(%+v, %q) = %d %d, want 0 %d", tree, key, val, why, want)
		}
		if more, why := Put(tree, key, 1); len(more.Nodes) != 0 || why != want {
			t.Errorf("Put(%+v, %q) = %+v %d, want none %d", tree, key, more, why, want)
		}
		if less, why := Cut(tree, key); len(less.Nodes) != 0 || why != want {
			t.Errorf("Cut(%+v, %q) = %+v %d, want none %d", tree, key, less, why, want)
		}
		for _, to := range []string{"", "b", "z"} {
			if l, why := List(tree, key, to); len(l) != 0 || why != want {
				t.Errorf("List(%+v, %q, %q) = %+v %d, want none %d", tree, key, to, l, why, want)
			}
		}
	}
}

// TestRefuses: P12.1, each fault, and which stands first.
func TestRefuses(t *testing.T) {
	for want, l := range sample.WrongTrees() {
		for _, tree := range l {
			mustRefuse(t, want, tree)
			mustRefuse(t, want, sample.RoomyTree(tree))
			if len(tree.Nodes) == api.MaxKeys {
				continue // one more were too many
			}
			tree.Nodes = append(slices.Clone(tree.Nodes), api.Node{})
			mustRefuse(t, want, tree) // with one more fault of form
			tree.Nodes[len(tree.Nodes)-1].Keys = []string{sample.Long(api.MaxKey + 1)}
			mustRefuse(t, api.ErrSize, tree)
		}
	}
}

// spoilt: all trees that a good one becomes by one key, val or kid more or less somewhere.
func spoilt(tree api.Tree) []api.Tree {
	var l []api.Tree
	change := func(at int, change func(n *api.Node)) {
		other := sample.CopyOfTree(tree)
		change(&other.Nodes[at])
		l = append(l, other)
	}
	for at, node := range tree.Nodes {
		keys, vals := len(node.Keys), len(node.Vals)
		change(at, func(n *api.Node) { n.Keys = n.Keys[:keys-1] })
		change(at, func(n *api.Node) { n.Vals = n.Vals[:vals-1] })
		change(at, func(n *api.Node) { n.Vals = nil })
		change(at, func(n *api.Node) { n.Keys = append(n.Keys, "\xff\xff") })
		change(at, func(n *api.Node) { n.Vals = append(n.Vals, 1) })
		for _, kid := range []int{-1, 0, at, at + 1, len(tree.Nodes) - 1, len(tree.Nodes)} {
			change(at, func(n *api.Node) { n.Kids = append(n.Kids, kid) })
			for i := range node.Kids {
				if node.Kids[i] != kid {
					change(at, func(n *api.Node) { n.Kids[i] = kid })
				}
			}
		}
		for i := range node.Kids {
			change(at, func(n *api.Node) { n.Kids = slices.Delete(n.Kids, i, i+1) })
			if i > 0 {
				change(at, func(n *api.Node) { n.Kids[i], n.Kids[i-1] = n.Kids[i-1], n.Kids[i] })
			}
		}
		if len(node.Kids) > 0 {
			change(at, func(n *api.Node) { n.Kids = nil })
		}
	}
	return l
}

// TestSpoilt: P12.1, a good tree with one thing more or less, or with two kids the other way round, is in no form.
func TestSpoilt(t *testing.T) {
	for _, tree := range sample.Trees() {
		for _, other := range spoilt(tree) {
			if why := Check(other); why != api.ErrForm {
				t.Errorf("Check(%+v) = %d, want %d", other, why, api.ErrForm)
			}
		}
	}
}

// withKey: a copy of a tree whose key of some place among all is another one.
func withKey(tree api.Tree, place int, key string) api.Tree {
	old := pairsOf(tree, 0)[place].Key
	tree = sample.CopyOfTree(tree)
	for _, n := range tree.Nodes {
		if i := slices.Index(n.Keys, old); i >= 0 {
			n.Keys[i] = key
		}
	}
	return tree
}

// TestKeysRise: P12.1, each key of a tree, held against the one ahead of it, wherever that stands.
func TestKeysRise(t *testing.T) {
	for _, tree := range append(sample.Trees(), full(t)) {
		l := pairsOf(tree, 0)
		for i := 1; i < len(l); i++ {
			before := l[i-1].Key
			for _, key := range []string{before, before[:max(len(before)-1, 0)], l[0].Key, ""} {
				if why := Check(withKey(tree, i, key)); why != api.ErrForm {
					t.Errorf("key %d of %+v as %q: %d, want %d", i, tree, key, why, api.ErrForm)
				}
			}
			if next := before + "\x00"; next < l[i].Key && len(next) <= api.MaxKey {
				want := slices.Clone(l)
				want[i-1].Key = next
				mustHave(t, withKey(tree, i-1, next), want)
			}
		}
	}
}

// TestLongKeys: P12.1, one key that is too long, wherever it stands.
func TestLongKeys(t *testing.T) {
	for _, tree := range append(sample.Trees(), full(t)) {
		for i := range pairsOf(tree, 0) {
			mustRefuse(t, api.ErrSize, withKey(tree, i, sample.Long(api.MaxKey+1)))
			mustRefuse(t, api.ErrSize, withKey(tree, i, strings.Repeat("\u00e9", api.MaxKey/2)+"x"))
		}
	}
}

// TestFull: P12.3, a full tree takes no other key, but another val; with one key too many there is none.
func TestFull(t *testing.T) {
	tree := full(t)
	l := pairsOf(tree, 0)
	for _, key := range []string{"", "a", "\xff", l[0].Key[1:], "\x00" + sample.Long(api.MaxKey-1)} {
		if more, why := Put(tree, key, 1); len(more.Nodes) != 0 || why != api.ErrFull {
			t.Errorf("Put(%q) = %+v %d, want none %d", key, more, why, api.ErrFull)
		}
	}
	if more, why := Put(tree, sample.Long(api.MaxKey+1), 1); len(more.Nodes) != 0 || why != api.ErrSize {
		t.Errorf("a key that is too long: %+v %d, want none %d", more, why, api.ErrSize)
	}
	for i := range tree.Nodes {
		if n := tree.Nodes[i]; len(n.Kids) == 0 && len(n.Keys) < 3 {
			other := sample.CopyOfTree(tree)
			last := &other.Nodes[i]
			last.Keys, last.Vals = append(last.Keys, last.Keys[len(last.Keys)-1][:1]+"y"), append(last.Vals, 1)
			mustRefuse(t, api.ErrSize, other)
		}
	}
	less, why := Cut(tree, l[50].Key)
	if why != api.OK {
		t.Fatal(why)
	}
	mustPut(t, less, "", 1)
	if more, why := Put(less, sample.Long(api.MaxKey+1), 1); len(more.Nodes) != 0 || why != api.ErrSize {
		t.Errorf("a key that is too long: %+v %d, want none %d", more, why, api.ErrSize)
	}
}

// TestListsStayApart: what is handed in stays as it is, its spare room, too; answers share no list, spare room neither, with it, with each other or within one.
func TestListsStayApart(t *testing.T) {
	for _, good := range append(sample.Trees(), full(t)) {
		tree := sample.RoomyTree(good)
		before := sample.WholeTree(tree)
		keys := append([]string{"c", "zz"}, "")
		for _, p := range pairsOf(good, 0) {
			keys = append(keys, p.Key)
		}
		for _, key := range keys {
			put := func() api.Tree { more, _ := Put(tree, key, 5); return more }
			cut := func() api.Tree { less, _ := Cut(tree, key); return less }
			if !sample.TreesApart(put) || !sample.TreesApart(cut) {
				t.Errorf("with %q, or without it, %+v shares a list", key, tree)
			}
			Find(tree, key)
			l, _ := List(tree, "", key)
			other, _ := List(tree, "", key)
			for i := range l[:cap(l)] {
				l[:cap(l)][i] = api.Pair{Key: "spoilt", Val: 77}
			}
			if again, _ := List(tree, "", key); !slices.Equal(again, other) {
				t.Errorf("List(%+v, %q) shares its answer", tree, key)
			}
		}
		if whole := sample.WholeTree(tree); !reflect.DeepEqual(whole, before) {
			t.Errorf("%+v became %+v", before, whole)
		}
	}
}
