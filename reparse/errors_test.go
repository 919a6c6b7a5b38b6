package reparse_test

import (
	"math"
	"strings"
	"testing"

	"glossator/api"
	"glossator/reparse"
)

func checkError(t *testing.T, what, src string, tree api.SyntaxTree, e api.TextEdit, want api.Errno) {
	t.Helper()
	got, reused, err := reparse.Update(src, tree, e)
	if err != want || !sameTree(got, api.SyntaxTree{}) || reused != 0 {
		t.Errorf("%s: Update(%.60q, %.60v) = %v, %d, error %d, want error %d", what, src, e, got, reused, err, want)
	}
}

func TestMalformedEdits(t *testing.T) {
	const src = "use a"
	for _, e := range []api.TextEdit{
		edit(-1, 0, ""), edit(-1, -1, ""), edit(-3, -2, "x"), edit(2, 1, ""), edit(0, -1, ""),
		edit(0, 6, ""), edit(5, 6, ""), edit(6, 6, "x"), edit(6, 5, ""),
		edit(math.MinInt, 0, ""), edit(0, math.MinInt, ""), edit(math.MinInt, math.MaxInt, ""),
		edit(0, math.MaxInt, ""), edit(math.MaxInt, math.MaxInt, ""), edit(math.MaxInt, math.MinInt, ""),
		edit(2, 1, strings.Repeat("a", api.MaxSource+1)),
	} {
		checkError(t, "malformed edit", src, treeOf(t, src), e, api.ErrMalformed)
		checkError(t, "malformed edit and no tree", src, api.SyntaxTree{}, e, api.ErrMalformed)
	}
	checkError(t, "edit behind the empty source", "", treeOf(t, ""), edit(1, 1, ""), api.ErrMalformed)
}

// changedTrees returns trees that differ from a tree in one place each.
func changedTrees(tree api.SyntaxTree) []api.SyntaxTree {
	kind, text, more := copyOf(tree), copyOf(tree), copyOf(tree)
	kind.Kind++
	text.Text += "x"
	more.Children = append(more.Children, api.SyntaxTree{Kind: api.TokenUnexpected})
	trees := []api.SyntaxTree{kind, text, more}
	if len(tree.Children) > 0 {
		less := copyOf(tree)
		less.Children = less.Children[1:]
		trees = append(trees, less)
	}
	for i, child := range tree.Children {
		for _, changed := range changedTrees(child) {
			other := copyOf(tree)
			other.Children[i] = changed
			trees = append(trees, other)
		}
	}
	return trees
}

func TestTreesOfOtherSources(t *testing.T) {
	const src = "use a; // b\nfn f(c: &d) { \"e\" + 1\npub const g: int = 2;\n"
	tree := treeOf(t, src)
	for _, e := range []api.TextEdit{
		edit(0, 0, ""), edit(len(src), len(src), "x"), edit(0, len(src), ""), edit(20, 21, "x"), edit(len(src)-3, len(src), ""),
	} {
		if _, _, err := reparse.Update(src, tree, e); err != api.OK {
			t.Errorf("Update with the tree of the source: error %d", err)
		}
		for _, other := range changedTrees(tree) {
			checkError(t, "changed tree", src, other, e, api.ErrMalformed)
		}
		for _, other := range []string{"", " ", src + " ", " " + src, src[1:], src[:len(src)-1], apply(src, e) + "\n"} {
			checkError(t, "other source", src, treeOf(t, other), e, api.ErrMalformed)
		}
		checkError(t, "no tree", src, api.SyntaxTree{}, e, api.ErrMalformed)
		checkError(t, "item without its root", src, tree.Children[0], e, api.ErrMalformed)
	}
	checkError(t, "no tree of the empty source", "", api.SyntaxTree{}, edit(0, 0, ""), api.ErrMalformed)
	checkError(t, "no tree of the empty source", "", api.SyntaxTree{}, edit(0, 0, "a"), api.ErrMalformed)
}

// A tree that shares children with itself can have far more nodes than the
// memory, or no end.
func TestEndlessTrees(t *testing.T) {
	children := make([]api.SyntaxTree, 1)
	children[0] = api.SyntaxTree{Kind: api.NodeFile, Children: children}
	checkError(t, "no end", "use a;", children[0], edit(0, 0, ""), api.ErrMalformed)
	checkError(t, "no end", "", children[0], edit(0, 0, "a"), api.ErrMalformed)
	item := treeOf(t, ")").Children[0]
	item.Children[0] = item
	checkError(t, "no end below an item", ")", api.SyntaxTree{Kind: api.NodeFile, Children: []api.SyntaxTree{item}}, edit(0, 0, ""), api.ErrMalformed)
	tree := api.SyntaxTree{Kind: api.NodeFile}
	for range 100 {
		tree = api.SyntaxTree{Kind: api.NodeFile, Children: []api.SyntaxTree{tree, tree}}
	}
	checkError(t, "2^100 trees", "use a; use b;", tree, edit(0, 0, ""), api.ErrMalformed)
}

// Empty lists of children are equivalent.
func TestNilAndEmptyChildren(t *testing.T) {
	tree := api.SyntaxTree{Kind: api.NodeFile, Children: []api.SyntaxTree{}}
	if got, reused, err := reparse.Update("", tree, edit(0, 0, "")); err != api.OK || reused != 0 || !sameTree(got, tree) {
		t.Errorf("Update of the empty source = %v, %d, error %d", got, reused, err)
	}
	const src = "fn f();"
	tree = fillChildren(treeOf(t, src))
	if got, _, err := reparse.Update(src, tree, edit(7, 7, "\n")); err != api.OK || !sameTree(got, treeOf(t, src+"\n")) {
		t.Errorf("Update with empty lists of children = %v, error %d", got, err)
	}
}

// fillChildren returns a tree without nil lists of children.
func fillChildren(tree api.SyntaxTree) api.SyntaxTree {
	children := []api.SyntaxTree{}
	for _, child := range tree.Children {
		children = append(children, fillChildren(child))
	}
	tree.Children = children
	return tree
}

func TestTooLongSources(t *testing.T) {
	longest := strings.Repeat("a", api.MaxSource)
	tooLong := longest + "a"
	for _, e := range []api.TextEdit{
		edit(0, 0, ""), edit(0, 2, ""), edit(0, len(tooLong), ""), edit(-1, 0, ""), edit(2, 1, ""), edit(0, math.MaxInt, "x"),
	} {
		checkError(t, "too long source", tooLong, treeOf(t, longest), e, api.ErrTooLarge)
		checkError(t, "too long source without a tree", tooLong, api.SyntaxTree{}, e, api.ErrTooLarge)
	}
	for _, c := range []struct {
		src  string
		edit api.TextEdit
	}{
		{longest, edit(0, 0, "a")},
		{longest, edit(api.MaxSource, api.MaxSource, " ")},
		{longest, edit(7, 8, "bc")},
		{"a", edit(1, 1, longest)},
		{"a", edit(0, 0, longest)},
		{"a", edit(0, 1, tooLong)},
		{"", edit(0, 0, tooLong)},
	} {
		checkError(t, "too long result", c.src, treeOf(t, c.src), c.edit, api.ErrTooLarge)
		checkError(t, "too long result without a tree", c.src, api.SyntaxTree{}, c.edit, api.ErrTooLarge)
	}
}
