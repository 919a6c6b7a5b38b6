package greentree_test

import (
	"fmt"
	"math"
	"slices"
	"strconv"
	"testing"

	"glossator/api"
	"glossator/greentree"
)

// leaf returns the tree of an identifier.
func leaf(text string) api.SyntaxTree { return api.SyntaxTree{Kind: api.TokenIdent, Text: text} }

// inner returns a tree with children.
func inner(children ...api.SyntaxTree) api.SyntaxTree {
	return api.SyntaxTree{Kind: api.NodePath, Children: children}
}

// wrapped returns a tree below n inner nodes that have one child each.
func wrapped(tree api.SyntaxTree, n int) api.SyntaxTree {
	for range n {
		tree = inner(tree)
	}
	return tree
}

// wide returns an inner node with n equal tokens.
func wide(n int) api.SyntaxTree {
	return inner(slices.Repeat([]api.SyntaxTree{leaf("a")}, n)...)
}

func sameNode(a, b api.GreenNode) bool {
	return a.Kind == b.Kind && a.Width == b.Width && a.Text == b.Text && slices.Equal(a.Children, b.Children)
}

func sameArena(a, b api.GreenArena) bool { return slices.EqualFunc(a.Nodes, b.Nodes, sameNode) }

// brief returns the start of a printed value: the largest ones fill pages.
func brief(value any) string { return fmt.Sprintf("%.300s", fmt.Sprintf("%+v", value)) }

// checkInsert checks the arena and the index that Insert returns.
func checkInsert(t *testing.T, what string, arena api.GreenArena, tree api.SyntaxTree, want api.GreenArena, index int) {
	t.Helper()
	got, i, err := greentree.Insert(arena, tree)
	if !sameArena(got, want) || i != index || err != api.OK {
		t.Errorf("%s: Insert = %s, %d, error %d, want %s, %d", what, brief(got), i, err, brief(want), index)
	}
}

func checkInsertError(t *testing.T, what string, arena api.GreenArena, tree api.SyntaxTree, want api.Errno) {
	t.Helper()
	if got, i, err := greentree.Insert(arena, tree); got.Nodes != nil || i != 0 || err != want {
		t.Errorf("%s: Insert = %s, %d, error %d, want error %d", what, brief(got), i, err, want)
	}
}

func TestInsert(t *testing.T) {
	a, b, c := leafNode("a"), leafNode("b"), leafNode("cd")
	for _, test := range []struct {
		what  string
		arena api.GreenArena
		tree  api.SyntaxTree
		want  api.GreenArena
		index int
	}{
		{"two equal tokens", arenaOf(), inner(leaf("a"), leaf("a")), arenaOf(a, innerNode(2, 0, 0)), 1},
		{"token", arenaOf(), leaf("a"), arenaOf(a), 0},
		{"token without text", arenaOf(), leaf(""), arenaOf(leafNode("")), 0},
		{"no children", arenaOf(), inner(), arenaOf(innerNode(0)), 0},
		{"zero value", arenaOf(), api.SyntaxTree{}, arenaOf(api.GreenNode{}), 0},
		{"existing token", arenaOf(a, b, c), leaf("b"), arenaOf(a, b, c), 1},
		{"new token", arenaOf(a, b), leaf("cd"), arenaOf(a, b, c), 2},
		{"existing tree", arenaOf(a, b, innerNode(2, 0, 1), c), inner(leaf("a"), leaf("b")),
			arenaOf(a, b, innerNode(2, 0, 1), c), 2},
		{"other order of children", arenaOf(a, b, innerNode(2, 0, 1)), inner(leaf("b"), leaf("a")),
			arenaOf(a, b, innerNode(2, 0, 1), innerNode(2, 1, 0)), 3},
		{"other number of children", arenaOf(a, innerNode(1, 0)), inner(leaf("a"), leaf("a")),
			arenaOf(a, innerNode(1, 0), innerNode(2, 0, 0)), 2},
		{"order of missing nodes", arenaOf(c), inner(inner(leaf("b"), leaf("cd")), leaf("a"), inner(leaf("b"))),
			arenaOf(c, b, innerNode(3, 1, 0), a, innerNode(1, 1), innerNode(5, 2, 3, 4)), 5},
		{"equal subtrees", arenaOf(), inner(inner(leaf("a")), inner(inner(leaf("a")), leaf("a"))),
			arenaOf(a, innerNode(1, 0), innerNode(2, 1, 0), innerNode(3, 1, 2)), 3},
		{"equal tokens in different depths", arenaOf(), inner(inner(leaf("a"), leaf("b")), leaf("b"), leaf("cd")),
			arenaOf(a, b, innerNode(2, 0, 1), c, innerNode(5, 2, 1, 3)), 4},
		{"texts are bytes", arenaOf(), inner(leaf("\xff"), leaf("é")),
			arenaOf(leafNode("\xff"), leafNode("é"), innerNode(3, 0, 1)), 2},
	} {
		checkInsert(t, test.what, test.arena, test.tree, test.want, test.index)
	}
}

// Trees are equal only if their kinds are.
func TestInsertTellsKindsApart(t *testing.T) {
	arena := api.GreenArena{}
	for i, kind := range []int{math.MinInt, -1, 0, 1, 99, 256, 100, 101, 108, math.MaxInt} {
		tree := api.SyntaxTree{Kind: kind}
		want := arenaOf(append(slices.Clone(arena.Nodes), api.GreenNode{Kind: kind})...)
		checkInsert(t, "kind "+strconv.Itoa(kind), arena, tree, want, i)
		checkInsert(t, "kind again "+strconv.Itoa(kind), want, tree, want, i)
		arena = want
	}
}

// Nil and empty lists of children are equal.
func TestInsertWithEmptyChildren(t *testing.T) {
	none := []int{}
	arena := arenaOf(api.GreenNode{Kind: api.TokenIdent, Width: 1, Text: "a", Children: none},
		api.GreenNode{Kind: api.NodePath, Children: none})
	tree := api.SyntaxTree{Kind: api.NodePath, Children: []api.SyntaxTree{}}
	token := api.SyntaxTree{Kind: api.TokenIdent, Text: "a", Children: []api.SyntaxTree{}}
	checkInsert(t, "empty in both", arena, tree, arena, 1)
	checkInsert(t, "empty in the arena", arena, inner(), arena, 1)
	checkInsert(t, "token, empty in both", arena, token, arena, 0)
	checkInsert(t, "token, empty in the arena", arena, leaf("a"), arena, 0)
	checkInsert(t, "empty in the tree", arenaOf(innerNode(0)), tree, arenaOf(innerNode(0)), 0)
	checkInsert(t, "both in the tree", arenaOf(), inner(tree, inner()), arenaOf(innerNode(0), innerNode(0, 0, 0)), 1)
}

// An arena whose widths have wrapped around is like any other one.
func TestInsertIntoWideArenas(t *testing.T) {
	arena := doubling(70)
	checkInsert(t, "existing tree", arena, inner(leaf("a"), leaf("a")), arena, 1)
	want := arenaOf(append(doubling(70).Nodes, leafNode("bc"), innerNode(4, 1, 70))...)
	checkInsert(t, "new tree", arena, inner(inner(leaf("a"), leaf("a")), leaf("bc")), want, 71)
}

func TestInsertLargestTrees(t *testing.T) {
	checkInsert(t, "4000 nodes", arenaOf(), wide(3999), arenaOf(leafNode("a"), innerNode(3999, make([]int, 3999)...)), 1)
	checkInsertError(t, "4001 nodes", arenaOf(), wide(4000), api.ErrTooLarge)
	checkInsertError(t, "many nodes", arenaOf(), wide(100000), api.ErrTooLarge)
	two := arenaOf(leafNode("a"), innerNode(1999, make([]int, 1999)...), innerNode(1998, make([]int, 1998)...),
		innerNode(3997, 1, 2))
	checkInsert(t, "4000 nodes in two subtrees", arenaOf(), inner(wide(1999), wide(1998)), two, 3)
	checkInsertError(t, "4001 nodes in two subtrees", arenaOf(), inner(wide(1999), wide(1999)), api.ErrTooLarge)
	checkInsertError(t, "4001 nodes that exist", two, inner(wide(1999), wide(1999)), api.ErrTooLarge)
	checkInsertError(t, "4001 nodes, few in the first subtree", arenaOf(), inner(leaf("a"), wide(3998)), api.ErrTooLarge)
}

func TestInsertDeepestTrees(t *testing.T) {
	checkInsert(t, "depth 200", arenaOf(), wrapped(leaf("a"), 199), chain(200), 199)
	checkInsertError(t, "depth 201", arenaOf(), wrapped(leaf("a"), 200), api.ErrTooLarge)
	checkInsertError(t, "depth 201 that exists", chain(4000), wrapped(leaf("a"), 200), api.ErrTooLarge)
	checkInsertError(t, "depth 201 of inner nodes", arenaOf(), wrapped(inner(), 200), api.ErrTooLarge)
	checkInsertError(t, "depth 201 behind a token", arenaOf(), inner(leaf("a"), wrapped(leaf("a"), 199)), api.ErrTooLarge)
	checkInsertError(t, "depth 201 before a token", arenaOf(), inner(wrapped(leaf("a"), 199), leaf("a")), api.ErrTooLarge)
	checkInsertError(t, "depth 100000", arenaOf(), wrapped(leaf("a"), 100000), api.ErrTooLarge)
	checkInsert(t, "depth 200 that exists", chain(4000), wrapped(leaf("a"), 199), chain(4000), 199)
}

// A tree that shares children with itself can have more nodes than can be
// counted, or no end.
func TestInsertEndlessTrees(t *testing.T) {
	tree := leaf("a")
	for range 190 {
		tree = inner(tree, tree)
	}
	checkInsertError(t, "2^190 nodes", arenaOf(), tree, api.ErrTooLarge)
	endless := make([]api.SyntaxTree, 3)
	for i := range endless {
		endless[i] = api.SyntaxTree{Kind: api.NodePath, Children: endless}
	}
	checkInsertError(t, "no end", arenaOf(), endless[0], api.ErrTooLarge)
	endless[1] = leaf("a")
	checkInsertError(t, "no end before a token", arenaOf(), inner(endless...), api.ErrTooLarge)
}

func TestInsertMalformedTrees(t *testing.T) {
	for _, malformed := range []api.SyntaxTree{
		{Kind: api.TokenIdent, Text: "a", Children: []api.SyntaxTree{leaf("a")}},
		{Kind: api.TokenEOF, Children: []api.SyntaxTree{leaf("a")}},
		{Kind: api.TokenUnexpected, Children: []api.SyntaxTree{inner()}},
		{Kind: math.MaxInt, Children: []api.SyntaxTree{inner(), inner()}},
		{Kind: api.NodePath, Text: "a"},
		{Kind: api.NodePath, Text: "a", Children: []api.SyntaxTree{leaf("a")}},
		{Kind: api.NodeNone, Text: " "},
		{Kind: api.NodeError, Text: "a"},
		{Kind: api.NodeParen, Text: "a"},
		{Kind: 99, Text: "a"},
		{Kind: -1, Text: "\x00"},
		{Kind: math.MinInt, Text: "a"},
	} {
		for what, tree := range map[string]api.SyntaxTree{
			"tree":         malformed,
			"first child":  inner(malformed, leaf("a")),
			"middle child": inner(leaf("a"), malformed, leaf("a")),
			"last child":   inner(leaf("a"), inner(leaf("a")), malformed),
			"deep child":   wrapped(inner(leaf("a"), malformed), 197),
		} {
			checkInsertError(t, what, arenaOf(), tree, api.ErrMalformed)
			checkInsertError(t, what+", full arena", leaves(4000), tree, api.ErrMalformed)
		}
	}
}

func TestInsertIntoTheLargestArenas(t *testing.T) {
	checkInsert(t, "token", leaves(3999), leaf("3999"), leaves(4000), 3999)
	checkInsert(t, "existing token", leaves(4000), leaf("3999"), leaves(4000), 3999)
	checkInsertError(t, "token that makes 4001", leaves(4000), leaf("a"), api.ErrTooLarge)
	full := arenaOf(append(leaves(3999).Nodes, innerNode(2, 1, 2))...)
	checkInsert(t, "tree", leaves(3999), inner(leaf("1"), leaf("2")), full, 3999)
	checkInsert(t, "existing tree", full, inner(leaf("1"), leaf("2")), full, 3999)
	checkInsertError(t, "tree that makes 4001", leaves(3999), inner(leaf("1"), leaf("a")), api.ErrTooLarge)
	checkInsertError(t, "root that makes 4001", full, inner(inner(leaf("1"), leaf("2"))), api.ErrTooLarge)
	var many []api.SyntaxTree
	for i := range 3999 {
		many = append(many, leaf("x"+strconv.Itoa(i)))
	}
	checkInsertError(t, "tree that makes 8000", leaves(4000), inner(many...), api.ErrTooLarge)
	checkInsertError(t, "tree that makes 4001 with one node", leaves(1), inner(many...), api.ErrTooLarge)
}

// The errors come in the order of the chapter.
func TestInsertOrderOfErrors(t *testing.T) {
	malformed := api.SyntaxTree{Kind: api.NodePath, Text: "a"}
	tooMany := inner(malformed, wide(4000))
	tooDeep := inner(malformed, wrapped(malformed, 200))
	for what, tree := range map[string]api.SyntaxTree{
		"tree": leaf("a"), "malformed": malformed, "too many nodes": tooMany, "too deep": tooDeep,
	} {
		checkInsertError(t, "malformed arena, "+what, arenaOf(leafNode("a"), leafNode("a")), tree, api.ErrMalformed)
		checkInsertError(t, "large malformed arena, "+what, api.GreenArena{Nodes: make([]api.GreenNode, 4000)}, tree, api.ErrMalformed)
		checkInsertError(t, "too large arena, "+what, leaves(4001), tree, api.ErrTooLarge)
		checkInsertError(t, "too large malformed arena, "+what, api.GreenArena{Nodes: make([]api.GreenNode, 4001)}, tree, api.ErrTooLarge)
	}
	checkInsertError(t, "malformed and too many nodes", arenaOf(), tooMany, api.ErrTooLarge)
	checkInsertError(t, "malformed and too deep", arenaOf(), tooDeep, api.ErrTooLarge)
}

func TestInsertLeavesItsArgumentsUnchanged(t *testing.T) {
	nodes := doubling(3).Nodes
	tree := inner(leaf("b"), leaf("a"))
	got, _, _ := greentree.Insert(api.GreenArena{Nodes: nodes[:2]}, tree)
	if !sameArena(arenaOf(nodes...), doubling(3)) {
		t.Errorf("Insert wrote behind the nodes of its argument: %v", nodes)
	}
	for _, node := range got.Nodes {
		clear(node.Children)
	}
	clear(got.Nodes)
	if !sameArena(arenaOf(nodes...), doubling(3)) {
		t.Errorf("the arena changed with the result: %v", nodes)
	}
	if !sameTree(tree, inner(leaf("b"), leaf("a"))) {
		t.Errorf("the tree changed: %v", tree)
	}
	existing, _, _ := greentree.Insert(arenaOf(nodes...), leaf("a"))
	clear(existing.Nodes[2].Children)
	clear(existing.Nodes)
	if !sameArena(arenaOf(nodes...), doubling(3)) {
		t.Errorf("the arena changed with a result without new nodes: %v", nodes)
	}
}

func TestInsertKeepsNoArguments(t *testing.T) {
	arena := doubling(3)
	tree := inner(leaf("b"), leaf("a"))
	got, _, _ := greentree.Insert(arena, tree)
	for _, node := range arena.Nodes {
		clear(node.Children)
	}
	clear(arena.Nodes)
	clear(tree.Children)
	if want := arenaOf(append(doubling(3).Nodes, leafNode("b"), innerNode(2, 3, 0))...); !sameArena(got, want) {
		t.Errorf("the result changed with the arguments: %v, want %v", got, want)
	}
}

// Appending to the children of one node of a result changes no other node.
func TestInsertSharesNoChildren(t *testing.T) {
	shared := []int{0, 0, 0}
	arena := arenaOf(leafNode("a"), innerNode(1, shared[:1]...), innerNode(2, shared[:2]...))
	got, _, _ := greentree.Insert(arena, inner(leaf("a"), leaf("b")))
	for i := range got.Nodes {
		got.Nodes[i].Children = append(got.Nodes[i].Children, 77)
	}
	want := arenaOf(leafNode("a"), innerNode(1, 0, 77), innerNode(2, 0, 0, 77), leafNode("b"), innerNode(2, 0, 3, 77))
	want.Nodes[0].Children, want.Nodes[3].Children = []int{77}, []int{77}
	if !sameArena(got, want) {
		t.Errorf("the nodes of a result share children: %v, want %v", got, want)
	}
}

// reference stores trees as the chapter describes: a list of the different
// trees in the order in which their ends occur.
type reference struct{ trees []api.SyntaxTree }

func (r *reference) find(tree api.SyntaxTree) int {
	return slices.IndexFunc(r.trees, func(other api.SyntaxTree) bool { return sameTree(tree, other) })
}

func (r *reference) insert(tree api.SyntaxTree) {
	for _, child := range tree.Children {
		r.insert(child)
	}
	if r.find(tree) < 0 {
		r.trees = append(r.trees, tree)
	}
}

func (r *reference) arena() api.GreenArena {
	var arena api.GreenArena
	for _, tree := range r.trees {
		node := api.GreenNode{Kind: tree.Kind, Width: len(sourceOf(tree)), Text: tree.Text}
		for _, child := range tree.Children {
			node.Children = append(node.Children, r.find(child))
		}
		arena.Nodes = append(arena.Nodes, node)
	}
	return arena
}

// smallTrees returns all trees up to a depth of two kinds of inner nodes with
// at most two children and of three tokens.
func smallTrees(depth int) []api.SyntaxTree {
	all := []api.SyntaxTree{leaf("a"), leaf("bc"), {Kind: api.TokenPunct, Text: "a"}}
	var children []api.SyntaxTree
	if depth > 1 {
		children = smallTrees(depth - 1)
	}
	for _, kind := range []int{api.NodePath, api.NodeBlock} {
		all = append(all, api.SyntaxTree{Kind: kind})
		for _, first := range children {
			all = append(all, api.SyntaxTree{Kind: kind, Children: []api.SyntaxTree{first}})
			for _, second := range children {
				all = append(all, api.SyntaxTree{Kind: kind, Children: []api.SyntaxTree{first, second}})
			}
		}
	}
	return all
}

func TestInsertAllSmallTrees(t *testing.T) {
	for _, tree := range smallTrees(3) {
		var r reference
		r.insert(tree)
		checkInsert(t, "small tree", arenaOf(), tree, r.arena(), len(r.trees)-1)
	}
	var r reference
	var arena api.GreenArena
	for i, tree := range slices.Concat(smallTrees(2), smallTrees(3)[4000:4100], smallTrees(2)) {
		r.insert(tree)
		checkInsert(t, "next tree "+strconv.Itoa(i), arena, tree, r.arena(), r.find(tree))
		arena = r.arena()
	}
}
