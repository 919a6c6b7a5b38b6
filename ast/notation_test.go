package ast_test

import (
	"slices"
	"strconv"
	"strings"
	"testing"

	"glossator/api"
	"glossator/ast"
	"glossator/lexer"
)

// kindNames has the names of the kinds of nodes in their order.
var kindNames = strings.Fields(`None File Use Func Struct Enum Trait Impl Const Macro TypeParams TypeParam
	Params Param Field Variant AssocType Path Segment RefType FuncType Block Let Assign While Return ExprStmt
	Int Bool String Call MethodCall FieldAccess StructLit FieldInit Match MatchArm If Lambda Binary Unary
	Borrow MacroCall Wildcard Binding VariantMatch Error`)

// shape returns a tree without positions in the notation of the tests: the kind
// of a node, its value if it is not 0, its quoted text if it has one, and its
// children are in brackets.
func shape(node api.Node) string {
	parts := []string{kindNames[node.Kind]}
	if node.Value != 0 {
		parts = append(parts, strconv.Itoa(node.Value))
	}
	if node.Text != "" {
		parts = append(parts, strconv.Quote(node.Text))
	}
	for _, child := range node.Children {
		parts = append(parts, shape(child))
	}
	return "[" + strings.Join(parts, " ") + "]"
}

// abbreviate writes what occurs in nearly every tree in a shorter way: `a is
// the path a, and - is an absent part.
func abbreviate(shape string) string {
	for _, name := range strings.Fields("a b c d e f g m p q r s x y z A B C S T U int bool self Self") {
		shape = strings.ReplaceAll(shape, `[Path [Segment "`+name+`"]]`, "`"+name)
	}
	return strings.ReplaceAll(shape, "[None]", "-")
}

// ranges returns the ranges of the nodes of a tree, in the notation of the
// tests: the kind of a node, its start and end, and the start of its name are
// followed by its children in brackets.
func ranges(node api.Node) string {
	text := kindNames[node.Kind] + " " + strconv.Itoa(node.Start) + "-" + strconv.Itoa(node.End)
	if node.NameStart >= 0 {
		text += "@" + strconv.Itoa(node.NameStart)
	}
	for _, child := range node.Children {
		text += " " + ranges(child)
	}
	return "[" + text + "]"
}

// parse returns the tree and the diagnostics of a source that is not too long.
func parse(t *testing.T, src string) (api.Node, []api.Diagnostic) {
	t.Helper()
	node, diagnostics, err := ast.Parse(src)
	if err != api.OK {
		t.Fatalf("Parse(%q): error %d", src, err)
	}
	return node, diagnostics
}

// parseClean returns the tree of a source without diagnostics.
func parseClean(t *testing.T, src string) api.Node {
	t.Helper()
	node, diagnostics := parse(t, src)
	if len(diagnostics) > 0 {
		t.Fatalf("Parse(%q): diagnostics %v", src, diagnostics)
	}
	return node
}

// walk calls visit for all nodes of a tree, each one before its children.
func walk(node api.Node, visit func(api.Node)) {
	visit(node)
	for _, child := range node.Children {
		walk(child, visit)
	}
}

// clone returns a copy of a tree that shares no memory with it.
func clone(node api.Node) api.Node {
	node.Children = slices.Clone(node.Children)
	for i, child := range node.Children {
		node.Children[i] = clone(child)
	}
	return node
}

// same reports whether two trees are equal in all fields.
func same(a, b api.Node) bool { return shape(a) == shape(b) && ranges(a) == ranges(b) }

// endlessTree returns a tree that contains itself. All its nodes have the range
// [0, 10).
func endlessTree() api.Node {
	children := make([]api.Node, 1)
	children[0] = api.Node{Kind: api.NodePath, End: 10, Children: children}
	return api.Node{Kind: api.NodePath, End: 10, Children: children}
}

// sharingTree returns a tree with 2^levels leaves that shares all children.
func sharingTree(levels int) api.Node {
	node := api.Node{Kind: api.NodeInt, Value: 1, End: 10}
	for range levels {
		node = api.Node{Kind: api.NodeBinary, Text: "+", End: 10, Children: []api.Node{node, node}}
	}
	return node
}

// tokenTexts returns the texts of the tokens of a source that are neither white
// space nor comments.
func tokenTexts(src string) []string {
	var texts []string
	tokens, _ := lexer.Tokenize(src)
	for _, token := range tokens {
		if token.Kind != api.TokenSpace && token.Kind != api.TokenComment {
			texts = append(texts, token.Text)
		}
	}
	return texts
}
