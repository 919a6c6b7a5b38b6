package parser_test

import (
	"math"
	"strings"
	"testing"

	"glossator/api"
	"glossator/parser"
)

func leaf(text string) api.SyntaxTree { return api.SyntaxTree{Kind: api.TokenIdent, Text: text} }

func inner(children ...api.SyntaxTree) api.SyntaxTree {
	return api.SyntaxTree{Kind: api.NodePath, Children: children}
}

// doubled returns a tree of 2^n trees.
func doubled(tree api.SyntaxTree, n int) api.SyntaxTree {
	for range n {
		tree = inner(tree, tree)
	}
	return tree
}

// wrapped returns a tree below n nodes that have one child each.
func wrapped(tree api.SyntaxTree, n int) api.SyntaxTree {
	for range n {
		tree = inner(tree)
	}
	return tree
}

func TestSource(t *testing.T) {
	long := strings.Repeat("a", 5000)
	for _, c := range []struct {
		what string
		tree api.SyntaxTree
		want string
	}{
		{"zero value", api.SyntaxTree{}, ""},
		{"no children", inner(), ""},
		{"empty children", api.SyntaxTree{Kind: api.NodeFile, Children: []api.SyntaxTree{}}, ""},
		{"token", leaf("ab"), "ab"},
		{"missing token", api.SyntaxTree{Kind: api.TokenUnexpected}, ""},
		{"order", inner(inner(leaf("a"), inner(leaf("b"))), leaf("c"), inner(), inner(inner(leaf("d")), leaf("e"))), "abcde"},
		{"missing token between others", inner(leaf("a"), leaf(""), leaf("b")), "ab"},
		{"white space", inner(api.SyntaxTree{Kind: api.TokenSpace, Text: " \n"}, api.SyntaxTree{Kind: api.TokenComment, Text: "//"}), " \n//"},
		{"bytes", inner(leaf("\xff"), leaf("\x00"), leaf("\xc3"), leaf("\xa9")), "\xff\x00é"},
		{"first kind of tokens", api.SyntaxTree{Kind: api.TokenEOF, Text: "a"}, "a"},
		{"unknown kind of tokens", api.SyntaxTree{Kind: math.MaxInt, Text: "a"}, "a"},
		{"text of an inner node", api.SyntaxTree{Kind: api.NodeString, Text: "a", Children: []api.SyntaxTree{leaf("b")}}, "b"},
		{"text of a parenthesis node", api.SyntaxTree{Kind: api.NodeParen, Text: "a"}, ""},
		{"negative kind", api.SyntaxTree{Kind: math.MinInt, Text: "a", Children: []api.SyntaxTree{leaf("b")}}, "b"},
		{"longer than a module", inner(leaf(long), leaf("b")), long + "b"},
		{"deep", wrapped(inner(leaf("a"), leaf("b")), 100000), "ab"},
		{"shared subtrees", doubled(leaf("ab"), 3), strings.Repeat("ab", 8)},
	} {
		if got := parser.Source(c.tree); got != c.want {
			t.Errorf("%s: Source = %.50q, want %.50q", c.what, got, c.want)
		}
	}
}

// A tree that shares children with itself can have far more nodes than the
// memory, or no end.
func TestSourceOfEndlessTrees(t *testing.T) {
	endless := make([]api.SyntaxTree, 2)
	endless[0] = leaf("a")
	endless[1] = api.SyntaxTree{Kind: api.NodePath, Children: endless}
	silent := make([]api.SyntaxTree, 1)
	silent[0] = inner(inner(silent...))
	silent[0].Children[0].Children = silent
	for _, c := range []struct {
		what string
		tree api.SyntaxTree
		want string
	}{
		{"2^100 empty trees", doubled(inner(), 100), ""},
		{"2^100 empty trees and a token", inner(doubled(inner(), 100), leaf("a"), doubled(leaf(""), 100)), "a"},
		{"2^100 bytes", doubled(leaf("a"), 100), ""},
		{"2^100 bytes and a token", inner(leaf("a"), doubled(leaf("a"), 100)), ""},
		{"no end", endless[1], ""},
		{"no end before a token", inner(endless[1], leaf("a")), ""},
		{"no end and no token", silent[0], ""},
	} {
		if got := parser.Source(c.tree); got != c.want {
			t.Errorf("%s: Source = %.50q, want %q", c.what, got, c.want)
		}
	}
}

func TestSourceLeavesTheTree(t *testing.T) {
	const src = "fn f() { a + 1; }\n"
	tree := parse(t, src)
	want := lossless(tree)
	for range 2 {
		if got := parser.Source(tree); got != src || lossless(tree) != want {
			t.Errorf("Source = %q, tree %s, want %q, tree %s", got, lossless(tree), src, want)
		}
	}
}
