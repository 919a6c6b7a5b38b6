package ast_test

import (
	"math"
	"strings"
	"testing"

	"glossator/api"
	"glossator/ast"
)

func texted(kind int, text string, children ...api.Node) api.Node {
	return api.Node{Kind: kind, Text: text, Children: children}
}

func valued(kind, value int, children ...api.Node) api.Node {
	return api.Node{Kind: kind, Value: value, Children: children}
}

func path(name string) api.Node { return child(api.NodePath, texted(api.NodeSegment, name)) }

// method returns a method without a body.
func method() api.Node {
	return texted(api.NodeFunc, "f", child(api.NodeTypeParams), child(api.NodeParams), api.Node{}, api.Node{})
}

func TestPrintMalformedExpressions(t *testing.T) {
	one, none := number(1), api.Node{}
	block := child(api.NodeBlock, none)
	for _, expression := range []api.Node{
		none,
		child(api.NodeError),
		texted(api.NodeError, "1"),
		child(api.NodeFile),
		child(api.NodeWildcard),
		child(api.NodeLet, texted(api.NodeBinding, "a"), none, one),
		child(api.NodeParen, one),
		{Kind: -1}, {Kind: api.NodeKinds}, {Kind: math.MinInt}, {Kind: math.MaxInt},
		{Kind: api.TokenInt, Text: "1"},
		number(-1), number(api.MaxInt + 1), number(math.MinInt), texted(api.NodeInt, "1"),
		child(api.NodeInt, one),
		valued(api.NodeBool, 2), valued(api.NodeBool, -1), texted(api.NodeBool, "true"), child(api.NodeBool, none),
		{Kind: api.NodeString, Value: 1}, child(api.NodeString, one),
		child(api.NodePath), path(""), path("fn"), path("1"), path("a b"), path(" a"), path("a::b"), path("é"),
		path(strings.Repeat("a", api.MaxName+1)),
		texted(api.NodePath, "a", path("a").Children...), valued(api.NodePath, 1, path("a").Children...),
		texted(api.NodeSegment, "a"),
		child(api.NodePath, texted(api.NodeSegment, "a", path("b"))),
		child(api.NodePath, valued(api.NodeSegment, 1)),
		child(api.NodeCall), child(api.NodeCall, none), child(api.NodeCall, one, none), texted(api.NodeCall, "a", one),
		texted(api.NodeMethodCall, "f"), texted(api.NodeMethodCall, "", one),
		texted(api.NodeFieldAccess, "f"), texted(api.NodeFieldAccess, "", one), texted(api.NodeFieldAccess, "f", one, one),
		child(api.NodeMacroCall, one), child(api.NodeMacroCall), texted(api.NodeMacroCall, "m", path("m")),
		child(api.NodeMacroCall, path("m"), block, none),
		child(api.NodeStructLit), child(api.NodeStructLit, path("S"), one), child(api.NodeStructLit, one),
		child(api.NodeStructLit, path("S"), texted(api.NodeFieldInit, "a")),
		child(api.NodeStructLit, path("S"), texted(api.NodeFieldInit, "", one)),
		texted(api.NodeFieldInit, "a", one),
		child(api.NodeMatch), child(api.NodeMatch, one, one), child(api.NodeMatch, none),
		child(api.NodeMatch, one, child(api.NodeMatchArm, one)),
		child(api.NodeMatchArm, one, one),
		child(api.NodeIf, one, block), child(api.NodeIf, one, one, none), child(api.NodeIf, one, block, one),
		child(api.NodeIf, none, block, none), child(api.NodeIf, one, block, none, none),
		child(api.NodeLambda, one), child(api.NodeLambda, child(api.NodeParams)), child(api.NodeLambda, one, one),
		texted(api.NodeLambda, "a", child(api.NodeParams), one),
		texted(api.NodeBinary, "+"), texted(api.NodeBinary, "+", one), texted(api.NodeBinary, "+", one, one, one),
		texted(api.NodeBinary, "", one, one), texted(api.NodeBinary, "=", one, one), texted(api.NodeBinary, "%", one, one),
		texted(api.NodeBinary, "+ -", one, one), texted(api.NodeBinary, " +", one, one), texted(api.NodeBinary, ".", one, path("a")),
		texted(api.NodeBinary, "+", none, one), texted(api.NodeBinary, "+", one, none), texted(api.NodeBinary, "!", one, one),
		{Kind: api.NodeBinary, Text: "+", Value: 1, Children: []api.Node{one, one}},
		texted(api.NodeUnary, "-"), texted(api.NodeUnary, "", one), texted(api.NodeUnary, "+", one), texted(api.NodeUnary, "&", one),
		texted(api.NodeUnary, "- -", one), texted(api.NodeUnary, "-", one, one), texted(api.NodeUnary, "-", none),
		child(api.NodeBorrow), child(api.NodeBorrow, none), valued(api.NodeBorrow, 2, one), valued(api.NodeBorrow, 3, one),
		texted(api.NodeBorrow, "&", one), child(api.NodeBorrow, one, one),
		child(api.NodeBlock), child(api.NodeBlock, none, none), child(api.NodeBlock, one, none), valued(api.NodeBlock, 1, none),
		child(api.NodeBlock, child(api.NodeReturn, none)), child(api.NodeBlock, valued(api.NodeNone, 1)),
		child(api.NodeBlock, texted(api.NodeNone, "a")), child(api.NodeBlock, child(api.NodeNone, one)),
		child(api.NodeBlock, path("a"), none), child(api.NodeBlock, child(api.NodeError), none),
	} {
		checkError(t, shapeOfAll(expression), constantOf(expression), api.ErrMalformed)
	}
}

// shapeOfAll is shape for a node that may have an unknown kind.
func shapeOfAll(node api.Node) string {
	if node.Kind < 0 || node.Kind >= api.NodeKinds {
		return "a node of an unknown kind"
	}
	return shape(node)
}

func TestPrintMalformedStatements(t *testing.T) {
	one, none, a := number(1), api.Node{}, texted(api.NodeBinding, "a")
	block := child(api.NodeBlock, none)
	for _, statement := range []api.Node{
		child(api.NodeLet), child(api.NodeLet, a, one), child(api.NodeLet, a, none, none), child(api.NodeLet, none, none, one),
		child(api.NodeLet, a, one, one), child(api.NodeLet, a, none, one, one), texted(api.NodeLet, "a", a, none, one),
		child(api.NodeLet, path("a"), none, one), child(api.NodeLet, texted(api.NodeBinding, "_"), none, one),
		child(api.NodeLet, texted(api.NodeBinding, ""), none, one), child(api.NodeLet, valued(api.NodeBinding, 2), none, one),
		child(api.NodeLet, texted(api.NodeBinding, "a", one), none, one),
		child(api.NodeLet, texted(api.NodeWildcard, "_"), none, one), child(api.NodeLet, child(api.NodeWildcard, none), none, one),
		child(api.NodeLet, texted(api.NodeString, "a"), none, one), child(api.NodeLet, number(-1), none, one),
		child(api.NodeLet, child(api.NodeVariantMatch), none, one), child(api.NodeLet, child(api.NodeVariantMatch, a), none, one),
		child(api.NodeLet, child(api.NodeVariantMatch, child(api.NodePath)), none, one),
		child(api.NodeLet, child(api.NodeVariantMatch, path("_")), none, one),
		child(api.NodeLet, child(api.NodeVariantMatch, path("_"), a), none, one),
		child(api.NodeLet, child(api.NodeVariantMatch, path("A"), none), none, one),
		child(api.NodeLet, child(api.NodeVariantMatch, path("A"), path("A")), none, one),
		child(api.NodeLet, texted(api.NodeVariantMatch, "A", path("A")), none, one),
		child(api.NodeAssign), child(api.NodeAssign, one), child(api.NodeAssign, one, none), child(api.NodeAssign, none, one),
		child(api.NodeAssign, one, one, one), texted(api.NodeAssign, "=", one, one),
		child(api.NodeWhile), child(api.NodeWhile, one), child(api.NodeWhile, one, one), child(api.NodeWhile, none, block),
		child(api.NodeWhile, one, block, block), child(api.NodeWhile, one, child(api.NodeBlock)), valued(api.NodeWhile, 1, one, block),
		child(api.NodeReturn), child(api.NodeReturn, one, one), child(api.NodeReturn, a), texted(api.NodeReturn, "a", one),
		child(api.NodeExprStmt), child(api.NodeExprStmt, none), child(api.NodeExprStmt, one, one),
		child(api.NodeExprStmt, child(api.NodeReturn, none)), child(api.NodeExprStmt, child(api.NodeError)),
		one, none, child(api.NodeError), method(), path("a"),
	} {
		checkError(t, shape(statement), constantOf(child(api.NodeBlock, statement, none)), api.ErrMalformed)
	}
}

func TestPrintMalformedItems(t *testing.T) {
	one, none, a, params := number(1), api.Node{}, path("a"), child(api.NodeTypeParams)
	body := child(api.NodeBlock, none)
	function := func(children ...api.Node) api.Node { return texted(api.NodeFunc, "f", children...) }
	public := method()
	public.Value = api.FlagPublic
	for _, item := range []api.Node{
		none, child(api.NodeError), texted(api.NodeError, "a"), child(api.NodeFile), one, a, body, {Kind: -1}, {Kind: 100},
		child(api.NodeUse), child(api.NodeUse, one), child(api.NodeUse, child(api.NodePath)), valued(api.NodeUse, 4, a),
		valued(api.NodeUse, -1, a), texted(api.NodeUse, "fn", a), child(api.NodeUse, a, a), child(api.NodeUse, path("*")),
		{Kind: api.NodeUse, Value: api.FlagGlob, Text: "b", Children: []api.Node{a}},
		child(api.NodeUse, child(api.NodePath, texted(api.NodeSegment, "a", a))),
		method(), function(), function(params, child(api.NodeParams), none), function(params, child(api.NodeParams), none, one),
		function(params, child(api.NodeParams), one, body), function(params, params, body, body),
		function(params, child(api.NodeParams), none, body, body), function(none, child(api.NodeParams), none, body),
		function(params, child(api.NodeParams, a), none, body), function(params, none, none, body),
		child(api.NodeFunc, params, child(api.NodeParams), none, body),
		function(child(api.NodeTypeParams, a), child(api.NodeParams), none, body),
		function(child(api.NodeTypeParams, texted(api.NodeTypeParam, "")), child(api.NodeParams), none, body),
		function(child(api.NodeTypeParams, texted(api.NodeTypeParam, "T", none)), child(api.NodeParams), none, body),
		function(child(api.NodeTypeParams, texted(api.NodeTypeParam, "T", child(api.NodeRefType, a))), child(api.NodeParams), none, body),
		function(params, child(api.NodeParams, texted(api.NodeParam, "a")), none, body),
		function(params, child(api.NodeParams, texted(api.NodeParam, "a", one)), none, body),
		function(params, child(api.NodeParams, texted(api.NodeParam, "", none)), none, body),
		texted(api.NodeStruct, "S"), texted(api.NodeStruct, "S", params, a), child(api.NodeStruct, params),
		texted(api.NodeStruct, "S", params, texted(api.NodeField, "a")), texted(api.NodeStruct, "S", params, texted(api.NodeField, "a", none)),
		texted(api.NodeStruct, "S", params, texted(api.NodeVariant, "a")), texted(api.NodeStruct, "S", params, texted(api.NodeField, "", a)),
		texted(api.NodeEnum, "E"), texted(api.NodeEnum, "E", params, a), texted(api.NodeEnum, "E", params, texted(api.NodeVariant, "")),
		texted(api.NodeEnum, "E", params, texted(api.NodeVariant, "A", none)), texted(api.NodeEnum, "E", params, texted(api.NodeVariant, "A", one)),
		child(api.NodeTrait), texted(api.NodeTrait, "T", a), texted(api.NodeTrait, "T", public), texted(api.NodeTrait, "T", none),
		texted(api.NodeTrait, "T", texted(api.NodeAssocType, "A")), texted(api.NodeTrait, "T", texted(api.NodeAssocType, "", none)),
		texted(api.NodeTrait, "T", texted(api.NodeAssocType, "A", one)), texted(api.NodeTrait, "T", texted(api.NodeTrait, "T")),
		child(api.NodeImpl), child(api.NodeImpl, params, none), child(api.NodeImpl, params, none, none), child(api.NodeImpl, params, a, none),
		texted(api.NodeImpl, "a", params, none, a), valued(api.NodeImpl, 2, params, none, a), child(api.NodeImpl, none, none, a),
		child(api.NodeImpl, params, none, a, public), child(api.NodeImpl, params, one, a),
		texted(api.NodeConst, "c"), texted(api.NodeConst, "c", a), texted(api.NodeConst, "c", none, one), texted(api.NodeConst, "c", a, none),
		texted(api.NodeConst, "c", one, one), texted(api.NodeConst, "c", a, a, a), child(api.NodeConst, a, one),
		texted(api.NodeConst, "c", child(api.NodeFuncType), one), texted(api.NodeConst, "c", child(api.NodeFuncType, none, none), one),
		texted(api.NodeConst, "c", child(api.NodeFuncType, one), one), texted(api.NodeConst, "c", child(api.NodeFuncType, one, none), one),
		texted(api.NodeConst, "c", child(api.NodeRefType), one), texted(api.NodeConst, "c", valued(api.NodeRefType, 2, a), one),
		texted(api.NodeConst, "c", child(api.NodeRefType, none), one), texted(api.NodeConst, "c", child(api.NodeRefType, a, a), one),
		texted(api.NodeMacro, "m", child(api.NodeParams)), texted(api.NodeMacro, "m", one, one), child(api.NodeMacro, child(api.NodeParams), one),
		texted(api.NodeMacro, "m", params, one), texted(api.NodeMacro, "m", child(api.NodeParams), one, one),
	} {
		checkError(t, shapeOfAll(item), child(api.NodeFile, item), api.ErrMalformed)
	}
}

// TestPrintOtherRoots checks that only the trees of files are printed.
func TestPrintOtherRoots(t *testing.T) {
	file := parseClean(t, "pub fn f<T>(a: int) { let mut x = \"s\" + (1); } trait T { type A; } impl S {}")
	for _, node := range append(file.Children, api.Node{}, number(1), child(api.NodeBlock, api.Node{}), child(api.NodeError)) {
		checkError(t, shape(node), node, api.ErrMalformed)
	}
	checkError(t, "a file", file, api.OK)
	file.Text = "a"
	checkError(t, "a file with a text", file, api.ErrMalformed)
	file.Text, file.Value = "", 1
	checkError(t, "a file with a value", file, api.ErrMalformed)
	checkError(t, "an empty file", child(api.NodeFile), api.OK)
	checkError(t, "a positioned file", api.Node{Kind: api.NodeFile, Start: -5, End: 7, NameStart: 9}, api.OK)
}

// TestPrintDoesNotChangeItsArgument also checks that trees of methods without
// a body, whose flags are right, are printed.
func TestPrintDoesNotChangeItsArgument(t *testing.T) {
	file := child(api.NodeFile, texted(api.NodeTrait, "T", method()))
	original := clone(file)
	src, err := ast.Print(file)
	if src != "trait T { fn f ( ) ; }" || err != api.OK || !same(file, original) {
		t.Errorf("Print returns %q, %d, and the argument is %s", src, err, shape(file))
	}
}
