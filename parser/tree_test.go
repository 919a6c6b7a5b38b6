package parser_test

import (
	"slices"
	"strconv"
	"strings"
	"testing"

	"glossator/api"
	"glossator/lexer"
	"glossator/parser"
)

// kindNames has the name of each kind of inner nodes.
var kindNames = map[int]string{
	api.NodeNone: "None", api.NodeFile: "File", api.NodeUse: "Use", api.NodeFunc: "Func",
	api.NodeStruct: "Struct", api.NodeEnum: "Enum", api.NodeTrait: "Trait", api.NodeImpl: "Impl",
	api.NodeConst: "Const", api.NodeMacro: "Macro", api.NodeTypeParams: "TypeParams",
	api.NodeTypeParam: "TypeParam", api.NodeParams: "Params", api.NodeParam: "Param",
	api.NodeField: "Field", api.NodeVariant: "Variant", api.NodeAssocType: "AssocType",
	api.NodePath: "Path", api.NodeSegment: "Segment", api.NodeRefType: "RefType",
	api.NodeFuncType: "FuncType", api.NodeBlock: "Block", api.NodeLet: "Let",
	api.NodeAssign: "Assign", api.NodeWhile: "While", api.NodeReturn: "Return",
	api.NodeExprStmt: "ExprStmt", api.NodeInt: "Int", api.NodeBool: "Bool",
	api.NodeString: "String", api.NodeCall: "Call", api.NodeMethodCall: "MethodCall",
	api.NodeFieldAccess: "FieldAccess", api.NodeStructLit: "StructLit",
	api.NodeFieldInit: "FieldInit", api.NodeMatch: "Match", api.NodeMatchArm: "MatchArm",
	api.NodeIf: "If", api.NodeLambda: "Lambda", api.NodeBinary: "Binary", api.NodeUnary: "Unary",
	api.NodeBorrow: "Borrow", api.NodeMacroCall: "MacroCall", api.NodeWildcard: "Wildcard",
	api.NodeBinding: "Binding", api.NodeVariantMatch: "VariantMatch", api.NodeError: "Error",
	api.NodeParen: "Paren",
}

func isTrivia(tree api.SyntaxTree) bool {
	return tree.Kind == api.TokenSpace || tree.Kind == api.TokenComment
}

func isMissing(tree api.SyntaxTree) bool {
	return tree.Kind == api.TokenUnexpected && tree.Text == ""
}

// shape returns a tree in the notation of the tests, without white space and
// comments: an inner node is its kind and its children in brackets, a missing
// token is a question mark, and any other token is its text.
func shape(tree api.SyntaxTree) string {
	switch {
	case isMissing(tree):
		return "?"
	case tree.Kind >= api.TokenEOF:
		return tree.Text
	}
	parts := []string{kindNames[tree.Kind]}
	for _, child := range tree.Children {
		if !isTrivia(child) {
			parts = append(parts, shape(child))
		}
	}
	return "[" + strings.Join(parts, " ") + "]"
}

// lossless is shape with white space and comments, which are quoted.
func lossless(tree api.SyntaxTree) string {
	switch {
	case isTrivia(tree):
		return strconv.Quote(tree.Text)
	case tree.Kind >= api.TokenEOF:
		return shape(tree)
	}
	parts := []string{kindNames[tree.Kind]}
	for _, child := range tree.Children {
		parts = append(parts, lossless(child))
	}
	return "[" + strings.Join(parts, " ") + "]"
}

// abbreviate writes what occurs in nearly every tree in a shorter way: `a is
// the path a, and 1 is the integer.
func abbreviate(shape string) string {
	for _, name := range strings.Fields("a b c d e f g m x y z S T U E A B int bool self Self") {
		shape = strings.ReplaceAll(shape, "[Path [Segment "+name+"]]", "`"+name)
	}
	for _, number := range strings.Fields("0 1 2 3 4 5") {
		shape = strings.ReplaceAll(shape, "[Int "+number+"]", number)
	}
	return strings.ReplaceAll(shape, "[None]", "~")
}

// leaves returns the tokens of a tree that are not missing.
func leaves(tree api.SyntaxTree) []api.Token {
	var tokens []api.Token
	var visit func(tree api.SyntaxTree)
	visit = func(tree api.SyntaxTree) {
		if tree.Kind >= api.TokenEOF && !isMissing(tree) {
			tokens = append(tokens, api.Token{Kind: tree.Kind, Text: tree.Text})
		}
		for _, child := range tree.Children {
			visit(child)
		}
	}
	visit(tree)
	return tokens
}

// parse returns the tree of src after checks that every tree has to pass.
func parse(t *testing.T, src string) api.SyntaxTree {
	t.Helper()
	tree, err := parser.Parse(src)
	if err != api.OK || tree.Kind != api.NodeFile {
		t.Fatalf("Parse(%q): kind %d, error %d", src, tree.Kind, err)
	}
	if want, _ := lexer.Tokenize(src); !slices.Equal(leaves(tree), want) {
		t.Fatalf("Parse(%q) = %s: tokens differ from %v", src, lossless(tree), want)
	}
	if problem := problemOf(tree); problem != "" {
		t.Fatalf("Parse(%q) = %s: %s", src, lossless(tree), problem)
	}
	if got := parser.Source(tree); got != src {
		t.Fatalf("Source of the tree of %q = %q", src, got)
	}
	return tree
}

// checkFile checks the tree of a source.
func checkFile(t *testing.T, src, want string) {
	t.Helper()
	if got := abbreviate(shape(parse(t, src))); got != "[File"+want+"]" {
		t.Errorf("Parse(%q):\n got %s\nwant [File%s]", src, got, want)
	}
}

// sample is a part of a source and its tree.
type sample struct{ src, want string }

// checkWithin checks samples between a prefix and a suffix.
func checkWithin(t *testing.T, before, treeBefore, after, treeAfter string, samples []sample) {
	t.Helper()
	for _, s := range samples {
		checkFile(t, before+s.src+after, treeBefore+s.want+treeAfter)
	}
}

func checkItems(t *testing.T, samples []sample) {
	t.Helper()
	for _, s := range samples {
		want := s.want
		if want != "" {
			want = " " + want
		}
		checkFile(t, s.src, want)
	}
}

// checkTypes checks samples as the type of a constant.
func checkTypes(t *testing.T, samples []sample) {
	t.Helper()
	checkWithin(t, "const c: ", " [Const const c : ", " = 1;", " = 1 ;]", samples)
}

// checkExpressions checks samples as the expression of a macro.
func checkExpressions(t *testing.T, samples []sample) {
	t.Helper()
	checkWithin(t, "macro m() = ", " [Macro macro m ( [Params )] = ", ";", " ;]", samples)
}

// checkBlocks checks samples as the contents of the block of a function.
func checkBlocks(t *testing.T, samples []sample) {
	t.Helper()
	checkWithin(t, "fn f() {", " [Func fn f [TypeParams] ( [Params )] ~ [Block { ", "}", " }]]", samples)
}

// checkPatterns checks samples as the pattern of a match arm.
func checkPatterns(t *testing.T, samples []sample) {
	t.Helper()
	checkWithin(t, "macro m() = match a {", " [Macro macro m ( [Params )] = [Match match `a { [MatchArm ",
		" => 1};", " => 1] }] ;]", samples)
}
