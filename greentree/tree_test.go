package greentree_test

import (
	"math"
	"slices"
	"testing"

	"glossator/api"
	"glossator/greentree"
)

func sameTree(a, b api.SyntaxTree) bool {
	return a.Kind == b.Kind && a.Text == b.Text && slices.EqualFunc(a.Children, b.Children, sameTree)
}

// sourceOf returns the texts of the tokens of a tree.
func sourceOf(tree api.SyntaxTree) string {
	source := tree.Text
	for _, child := range tree.Children {
		source += sourceOf(child)
	}
	return source
}

func checkTree(t *testing.T, what string, arena api.GreenArena, index int, want api.SyntaxTree) {
	t.Helper()
	if got, err := greentree.Tree(arena, index); !sameTree(got, want) || err != api.OK {
		t.Errorf("%s: Tree(%d) = %s, error %d, want %s", what, index, brief(got), err, brief(want))
	}
}

func checkTreeError(t *testing.T, what string, arena api.GreenArena, index int, want api.Errno) {
	t.Helper()
	if got, err := greentree.Tree(arena, index); !sameTree(got, api.SyntaxTree{}) || err != want {
		t.Errorf("%s: Tree(%d) = %s, error %d, want error %d", what, index, brief(got), err, want)
	}
}

func TestTree(t *testing.T) {
	arena := arenaOf(
		leafNode("a"),
		innerNode(2, 0, 0),
		api.GreenNode{Kind: api.TokenUnexpected},
		api.GreenNode{Kind: api.NodeError},
		api.GreenNode{Kind: api.NodeBlock, Width: 3, Children: []int{2, 1, 3, 0}},
		api.GreenNode{Kind: -5, Width: 8, Children: []int{4, 1, 4}},
	)
	missing, failed := api.SyntaxTree{Kind: api.TokenUnexpected}, api.SyntaxTree{Kind: api.NodeError}
	two := inner(leaf("a"), leaf("a"))
	block := api.SyntaxTree{Kind: api.NodeBlock, Children: []api.SyntaxTree{missing, two, failed, leaf("a")}}
	root := api.SyntaxTree{Kind: -5, Children: []api.SyntaxTree{block, two, block}}
	for i, want := range []api.SyntaxTree{leaf("a"), two, missing, failed, block, root} {
		checkTree(t, "tree", arena, i, want)
	}
	checkTree(t, "zero value", arenaOf(api.GreenNode{}), 0, api.SyntaxTree{})
	checkTree(t, "empty children", arenaOf(api.GreenNode{Children: []int{}}), 0, api.SyntaxTree{})
	checkTree(t, "text of bytes", arenaOf(leafNode("\xff\x00é")), 0, leaf("\xff\x00é"))
}

func TestTreeOutOfRange(t *testing.T) {
	for _, index := range []int{-1, -3, 3, 4, 1 << 16, 1 << 32, math.MinInt, math.MaxInt} {
		checkTreeError(t, "three nodes", chain(3), index, api.ErrNotFound)
		checkTreeError(t, "spare nodes", api.GreenArena{Nodes: chain(9).Nodes[:3]}, index, api.ErrNotFound)
	}
	for _, index := range []int{-1, 0, 1} {
		checkTreeError(t, "no nodes", arenaOf(), index, api.ErrNotFound)
	}
	checkTreeError(t, "largest arena", leaves(4000), 4000, api.ErrNotFound)
	checkTree(t, "largest arena", leaves(4000), 3999, leaf("3999"))
}

func TestLargestExpandedTrees(t *testing.T) {
	checkTree(t, "4000 nodes", arenaOf(leafNode("a"), innerNode(3999, make([]int, 3999)...)), 1, wide(3999))
	checkTreeError(t, "4001 nodes", arenaOf(leafNode("a"), innerNode(4000, make([]int, 4000)...)), 1, api.ErrTooLarge)
	checkTreeError(t, "many nodes", arenaOf(leafNode("a"), innerNode(100000, make([]int, 100000)...)), 1, api.ErrTooLarge)
	arena := arenaOf(leafNode("a"), innerNode(1999, make([]int, 1999)...), innerNode(1998, make([]int, 1998)...),
		innerNode(3997, 1, 2), innerNode(3998, 1, 1), innerNode(3998, 3, 0), innerNode(3997, 3))
	checkTree(t, "4000 nodes in two subtrees", arena, 3, inner(wide(1999), wide(1998)))
	for _, index := range []int{4, 5, 6} {
		checkTreeError(t, "4001 nodes in subtrees", arena, index, api.ErrTooLarge)
	}
	checkTree(t, "token of an arena with a large tree", arena, 0, leaf("a"))
}

// The number of nodes that an arena stands for grows up to 2^4000.
func TestTreesTooLargeToCount(t *testing.T) {
	arena := doubling(4000)
	tree := leaf("a")
	for range 10 {
		tree = inner(tree, tree)
	}
	checkTree(t, "2047 nodes", arena, 10, tree)
	for _, index := range []int{11, 12, 30, 31, 62, 63, 64, 65, 1000, 3999} {
		checkTreeError(t, "at least 4095 nodes", arena, index, api.ErrTooLarge)
	}
}

// Only the number of nodes is limited here: a tree may be deeper than one that
// Insert accepts.
func TestDeepTrees(t *testing.T) {
	arena := chain(4000)
	for _, index := range []int{198, 199, 200, 201, 3999} {
		checkTree(t, "chain", arena, index, wrapped(leaf("a"), index))
	}
}

// The errors come in the order of the chapter.
func TestTreeOrderOfErrors(t *testing.T) {
	malformed := arenaOf(append(doubling(20).Nodes, leafNode("a"))...)
	tooLarge := doubling(4001)
	both := doubling(4001)
	both.Nodes[3].Width = 0
	for _, index := range []int{0, 19, 20, 21, 4001, -1, math.MinInt, math.MaxInt} {
		checkTreeError(t, "malformed arena", malformed, index, api.ErrMalformed)
		checkTreeError(t, "too large arena", tooLarge, index, api.ErrTooLarge)
		checkTreeError(t, "too large malformed arena", both, index, api.ErrTooLarge)
	}
	checkTreeError(t, "out of range among large trees", doubling(20), 20, api.ErrNotFound)
	for what, arena := range map[string]api.GreenArena{
		"child of itself": arenaOf(innerNode(0, 0)),
		"later child":     arenaOf(innerNode(0, 1), innerNode(0)),
		"wrong width":     arenaOf(leafNode("a"), innerNode(0, 0)),
		"token children":  arenaOf(leafNode("a"), api.GreenNode{Kind: api.TokenInt, Width: 1, Children: []int{0}}),
		"inner text":      arenaOf(api.GreenNode{Kind: api.NodePath, Width: 1, Text: "a"}),
		"equal nodes":     arenaOf(leafNode("a"), innerNode(1, 0), innerNode(1, 0)),
	} {
		checkTreeError(t, what, arena, 0, api.ErrMalformed)
	}
}

// A subtree that occurs twice is two trees in a result.
func TestTreeResultsAreIndependent(t *testing.T) {
	arena := doubling(3)
	pair := inner(leaf("a"), leaf("a"))
	got, _ := greentree.Tree(arena, 2)
	got.Children[0].Children[0] = leaf("changed")
	got.Children[0].Children = append(got.Children[0].Children, leaf("more"))
	if !sameTree(got.Children[1], pair) {
		t.Errorf("the second child changed with the first one: %v", got.Children[1])
	}
	if !sameArena(arena, doubling(3)) {
		t.Errorf("the arena changed with the result: %v", arena)
	}
	checkTree(t, "after a result was modified", arena, 2, inner(pair, pair))
	got, _ = greentree.Tree(arena, 2)
	clear(arena.Nodes[2].Children)
	clear(arena.Nodes)
	if !sameTree(got, inner(pair, pair)) {
		t.Errorf("the result changed with the arena: %v", got)
	}
}

// A tree that was inserted is returned under its index, in the new arena and in
// every later one.
func TestTreeOfInsert(t *testing.T) {
	trees := smallTrees(2)
	var arena api.GreenArena
	var indices []int
	for _, tree := range trees {
		next, index, err := greentree.Insert(arena, tree)
		if err != api.OK {
			t.Fatalf("Insert(%v): error %d", tree, err)
		}
		arena, indices = next, append(indices, index)
		for i, earlier := range indices {
			checkTree(t, "inserted tree", arena, earlier, trees[i])
		}
	}
	for i := range arena.Nodes {
		tree, err := greentree.Tree(arena, i)
		if err != api.OK || arena.Nodes[i].Width != len(sourceOf(tree)) {
			t.Errorf("Tree(%d) = %v, error %d, width %d", i, tree, err, arena.Nodes[i].Width)
		}
		checkInsert(t, "tree of the arena", arena, tree, arena, i)
	}
}
