package ast_test

import (
	"slices"
	"testing"

	"glossator/api"
	"glossator/ast"
)

func leaf(start, end int) api.Node { return api.Node{Kind: api.NodeInt, Start: start, End: end} }

func TestPathAt(t *testing.T) {
	node := parseClean(t, "pub fn f(a: int) { a + (1) }")
	for _, test := range []struct {
		offset int
		want   []int
	}{
		{-1, nil},
		{0, []int{0}},
		{9, []int{0, 1, 0}},
		{10, []int{0, 1, 0}},
		{12, []int{0, 1, 0, 0, 0}},
		{15, []int{0, 1}},
		{16, []int{0}},
		{17, []int{0, 3}},
		{19, []int{0, 3, 0, 0, 0}},
		{20, []int{0, 3, 0}},
		{23, []int{0, 3, 0, 1}},
		{25, []int{0, 3, 0, 1}},
		{26, []int{0, 3}},
		{27, []int{0, 3}},
		{28, nil},
	} {
		if got := ast.PathAt(node, test.offset); !slices.Equal(got, test.want) {
			t.Errorf("PathAt(%d) = %v, want %v", test.offset, got, test.want)
		}
	}
}

// TestPathAtOfOtherTrees checks trees that no source has.
func TestPathAtOfOtherTrees(t *testing.T) {
	node := leaf(5, 5)
	node.Children = []api.Node{leaf(0, 0), leaf(3, 1), leaf(0, 2), leaf(0, 4), leaf(-3, -1)}
	node.Children[3].Children = []api.Node{leaf(0, 1), leaf(8, 9), leaf(2, 9)}
	node.Children[3].Children[2].Children = []api.Node{leaf(9, 9)}
	for _, test := range []struct {
		offset int
		want   []int
	}{
		{-4, nil}, {-3, []int{4}}, {-1, nil}, {0, []int{2}}, {1, []int{2}}, {2, []int{3, 2}}, {3, []int{3, 2}},
		{4, nil}, {5, nil}, {8, nil},
	} {
		if got := ast.PathAt(node, test.offset); !slices.Equal(got, test.want) {
			t.Errorf("PathAt(%d) = %v, want %v", test.offset, got, test.want)
		}
	}
	if got := ast.PathAt(api.Node{Start: 0, End: 9}, 3); len(got) != 0 {
		t.Errorf("PathAt of a node without children = %v", got)
	}
	if got := ast.PathAt(endlessTree(), 3); len(got) != 0 {
		t.Errorf("PathAt of a tree without an end = %v", got)
	}
	if got := ast.PathAt(endlessTree(), 10); len(got) != 0 {
		t.Errorf("PathAt behind a tree without an end = %v", got)
	}
	if got := ast.PathAt(sharingTree(100), 3); len(got) != 100 {
		t.Errorf("PathAt of a high tree = %v", got)
	}
}

func TestStripPositions(t *testing.T) {
	node := parseClean(t, "pub fn f<T>(a: int) { let mut x = \"s\" + (1); } // c")
	original := clone(node)
	stripped := ast.StripPositions(node)
	if shape(stripped) != shape(node) {
		t.Errorf("StripPositions(%s) = %s", shape(node), shape(stripped))
	}
	walk(stripped, func(node api.Node) {
		if node.Start != 0 || node.End != 0 || node.NameStart != -1 {
			t.Errorf("the ranges of %s", ranges(node))
		}
	})
	stripped.Children[0].Text = "g"
	stripped.Children[0].Children[3].Children[0].Children[0].Value = 7
	if !same(node, original) {
		t.Errorf("a change of the result changes the argument to %s", shape(node))
	}
	if got := ast.StripPositions(api.Node{}); shape(got) != "[None]" || got.NameStart != -1 {
		t.Errorf("StripPositions of an empty node = %v", got)
	}
}

// TestStripPositionsOfSharedChildren checks that the result does not share
// children where the argument does.
func TestStripPositionsOfSharedChildren(t *testing.T) {
	stripped := ast.StripPositions(sharingTree(3))
	want := shape(sharingTree(3))
	if shape(stripped) != want {
		t.Errorf("StripPositions of a tree with shared children = %s", shape(stripped))
	}
	other := clone(stripped)
	stripped.Children[0].Children[0].Children[0].Value = 7
	other.Children[0].Children[0].Children[0].Value = 7
	if shape(stripped) != shape(other) {
		t.Errorf("after a change of one node: %s", shape(stripped))
	}
	for _, tree := range []api.Node{endlessTree(), sharingTree(40), sharingTree(4000)} {
		if got := ast.StripPositions(tree); !same(got, api.Node{}) {
			t.Errorf("StripPositions of a tree without an end = %v", got)
		}
	}
}

func TestEqual(t *testing.T) {
	src := "pub fn f<T>(a: int) { let mut x = \"s\" + (1); } // c"
	node := parseClean(t, src)
	for _, other := range []api.Node{
		node, clone(node), ast.StripPositions(node),
		parseClean(t, "pub fn f<T,>(a:int,){let mut x=\"s\"+1;}"),
	} {
		if !ast.Equal(node, other) || !ast.Equal(other, node) {
			t.Errorf("%s and %s are not equal", shape(node), shape(other))
		}
	}
	for _, change := range []func(*api.Node){
		func(node *api.Node) { node.Kind++ },
		func(node *api.Node) { node.Value++ },
		func(node *api.Node) { node.Text += "a" },
		func(node *api.Node) { node.Children = append(slices.Clone(node.Children), api.Node{}) },
	} {
		checkChanges(t, node, change)
	}
}

// checkChanges checks that a tree is not equal to a copy in which one node has
// been changed.
func checkChanges(t *testing.T, node api.Node, change func(*api.Node)) {
	t.Helper()
	count := 0
	walk(node, func(api.Node) { count++ })
	for i := range count {
		other := clone(node)
		n := 0
		changeNode(&other, func(node *api.Node) {
			if n == i {
				change(node)
			}
			n++
		})
		if ast.Equal(node, other) || ast.Equal(other, node) {
			t.Errorf("%s and %s are equal", shape(node), shape(other))
		}
	}
}

// changeNode calls change for all nodes of a tree, each one behind its children.
func changeNode(node *api.Node, change func(*api.Node)) {
	for i := range node.Children {
		changeNode(&node.Children[i], change)
	}
	change(node)
}

func TestEqualOfOtherTrees(t *testing.T) {
	number := api.Node{Kind: api.NodeInt, Value: 1}
	if !ast.Equal(api.Node{}, api.Node{Start: 1, End: 2, NameStart: 3, Children: []api.Node{}}) {
		t.Errorf("empty nodes are not equal")
	}
	if !ast.Equal(sharingTree(3), clone(sharingTree(3))) {
		t.Errorf("a tree with shared children is not equal to its copy")
	}
	if ast.Equal(sharingTree(3), sharingTree(2)) {
		t.Errorf("trees with shared children of different heights are equal")
	}
	other := sharingTree(1000)
	other.Children[1] = number
	if !ast.Equal(sharingTree(1000), sharingTree(1000)) || ast.Equal(sharingTree(1000), other) {
		t.Errorf("high trees are not compared")
	}
	longer := api.Node{Kind: api.NodePath, End: 10, Children: []api.Node{endlessTree()}}
	if !ast.Equal(endlessTree(), endlessTree()) || !ast.Equal(endlessTree(), longer) {
		t.Errorf("trees without an end are not equal")
	}
	longer.Children = append(longer.Children, number)
	if ast.Equal(endlessTree(), longer) || ast.Equal(endlessTree(), number) {
		t.Errorf("a tree without an end is equal to another one")
	}
}
