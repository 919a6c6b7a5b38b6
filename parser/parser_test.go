package parser_test

import (
	"reflect"
	"strings"
	"testing"

	"glossator/api"
	"glossator/parser"
)

// White space and comments are children of the node of the token that follows
// them.
func TestWhiteSpace(t *testing.T) {
	for _, s := range []sample{
		{"", `[File]`},
		{" ", `[File " "]`},
		{" // c\n", `[File " " "// c" "\n"]`},
		{"// c", `[File "// c"]`},
		{" use a ; ", `[File [Use " " use [Path [Segment " " a]] " " ;] " "]`},
		{"// c\npub use a::b as c;\n", `[File [Use "// c" "\n" pub " " use [Path [Segment " " a] :: [Segment b]] " " as " " c ;] "\n"]`},
		{"use a :: b :: * ;", `[File [Use use [Path [Segment " " a] " " :: [Segment " " b]] " " :: " " * " " ;]]`},
		{"fn ", `[File [Func fn ? [TypeParams] ? [Params ?] [None] [Block ? [None] ?]] " "]`},
		{"fn f ( a ) { } ", `[File [Func fn " " f [TypeParams] " " ( [Params [Param " " a [None]] " " )] [None] ` +
			`[Block " " { [None] " " }]] " "]`},
		{"fn f < A > ( ) -> int { 1 }", `[File [Func fn " " f [TypeParams " " < [TypeParam " " A] " " >] " " ( [Params " " )] ` +
			`" " -> [Path [Segment " " int]] [Block " " { [Int " " 1] " " }]]]`},
		{"trait T { fn f() ; }", `[File [Trait trait " " T " " { [Func " " fn " " f [TypeParams] ( [Params )] [None] " " ; [None]] " " }]]`},
		{"impl S { }", `[File [Impl impl [TypeParams] [None] [Path [Segment " " S]] " " { " " }]]`},
		{"impl T for S { }", `[File [Impl impl [TypeParams] [Path [Segment " " T]] " " for [Path [Segment " " S]] " " { " " }]]`},
		{"const c: int = 1 + 2 * 3 ;", `[File [Const const " " c : [Path [Segment " " int]] " " = [Binary [Int " " 1] " " + ` +
			`[Binary [Int " " 2] " " * [Int " " 3]]] " " ;]]`},
		{"const c: int = ;", `[File [Const const " " c : [Path [Segment " " int]] " " = [Error] " " ;]]`},
		{"const c: int = a . b ( 1 , 2 )", `[File [Const const " " c : [Path [Segment " " int]] " " = [MethodCall ` +
			`[Path [Segment " " a]] " " . " " b " " ( [Int " " 1] " " , [Int " " 2] " " )] ?]]`},
		{"macro m() = a ! ( 1 )", `[File [Macro macro " " m ( [Params )] " " = [MacroCall [Path [Segment " " a]] " " ! " " ( [Int " " 1] " " )] ?]]`},
		{"macro m() = | x | - x", `[File [Macro macro " " m ( [Params )] " " = [Lambda " " | [Params [Param " " x [None]] " " |] ` +
			`[Unary " " - [Path [Segment " " x]]]] ?]]`},
		{"macro m() = ( . a )", `[File [Macro macro " " m ( [Params )] " " = [Paren " " ( [FieldAccess [Error] " " . " " a] " " )] ?]]`},
		{"fn f() { a ; b }", `[File [Func fn " " f [TypeParams] ( [Params )] [None] [Block " " { [ExprStmt [Path [Segment " " a]] " " ;] ` +
			`[Path [Segment " " b]] " " }]]]`},
		{"fn f() { a = b ; } ", `[File [Func fn " " f [TypeParams] ( [Params )] [None] [Block " " { [Assign [Path [Segment " " a]] " " = ` +
			`[Path [Segment " " b]] " " ;] [None] " " }]] " "]`},
		{"fn f() { // c\n if a { } // d\n}", `[File [Func fn " " f [TypeParams] ( [Params )] [None] [Block " " { ` +
			`[If " " "// c" "\n " if [Path [Segment " " a]] [Block " " { [None] " " }] [None]] " " "// d" "\n" }]]]`},
		{"fn f() { = ; }", `[File [Func fn " " f [TypeParams] ( [Params )] [None] [Block " " { [Error " " =] [Error " " ;] [None] " " }]]]`},
		{" 1 2 fn", `[File [Error " " 1 " " 2] [Func " " fn ? [TypeParams] ? [Params ?] [None] [Block ? [None] ?]]]`},
		{"1 // c\n", `[File [Error 1] " " "// c" "\n"]`},
		{"fn f( 1 , ", `[File [Func fn " " f [TypeParams] ( [Params [Error " " 1] " " , ?] [None] [Block ? [None] ?]] " "]`},
	} {
		if got := lossless(parse(t, s.src)); got != s.want {
			t.Errorf("Parse(%q):\n got %s\nwant %s", s.src, got, s.want)
		}
	}
}

// The kinds of tokens are those of the lexer, and missing tokens and parts are
// empty.
func TestNodesOfTree(t *testing.T) {
	token := func(kind int, text string) api.SyntaxTree { return api.SyntaxTree{Kind: kind, Text: text} }
	inner := func(kind int, children ...api.SyntaxTree) api.SyntaxTree {
		return api.SyntaxTree{Kind: kind, Children: children}
	}
	missing := api.SyntaxTree{Kind: api.TokenUnexpected}
	space := token(api.TokenSpace, " ")
	want := inner(api.NodeFile,
		inner(api.NodeConst,
			token(api.TokenComment, "//"), token(api.TokenSpace, "\n"), token(api.TokenKeyword, "const"),
			space, token(api.TokenIdent, "c"), missing, inner(api.NodeError),
			space, token(api.TokenPunct, "="),
			inner(api.NodeCall,
				inner(api.NodeString, space, token(api.TokenString, `"s"`)), token(api.TokenPunct, "("),
				inner(api.NodeInt, token(api.TokenInt, "1")), token(api.TokenPunct, ","),
				inner(api.NodeError, space, token(api.TokenUnexpected, "#")), token(api.TokenPunct, ")")),
			missing),
		space)
	if got, err := parser.Parse("//\nconst c = \"s\"(1, #) "); err != api.OK || !reflect.DeepEqual(got, want) {
		t.Errorf("Parse = %s, error %d, want %s", lossless(got), err, lossless(want))
	}
}

func TestLongestSources(t *testing.T) {
	for _, unit := range strings.Fields(`a ( { [ | || & - . .a .( a( < + == if while match new let fn( fn<
		a< a:: a!( |a|( {if |a: use pub fn struct trait impl<& = # " // _ , ; ) }`) {
		for _, before := range []string{"", "const c: ", "const c: int = ", "fn f() {", "fn f() { let ", "fn f() { match a { A("} {
			checkLongest(t, before, unit)
			checkLongest(t, before, unit+" ")
		}
	}
}

// checkLongest parses a source of the greatest length, and a longer one.
func checkLongest(t *testing.T, before, unit string) {
	t.Helper()
	longest := (before + strings.Repeat(unit, api.MaxSource))[:api.MaxSource]
	parse(t, longest)
	if tree, err := parser.Parse(longest + "a"); err != api.ErrTooLarge || !reflect.ValueOf(tree).IsZero() {
		t.Errorf("Parse of %d bytes: kind %d, error %d", len(longest)+1, tree.Kind, err)
	}
}

// addresses counts how many lists of children each node is in, also behind the
// ends of the lists.
func addresses(tree api.SyntaxTree, counts map[*api.SyntaxTree]int) {
	for i := range tree.Children[:cap(tree.Children)] {
		counts[&tree.Children[:cap(tree.Children)][i]]++
	}
	for _, child := range tree.Children {
		addresses(child, counts)
	}
}

func TestTreesAreNewMemory(t *testing.T) {
	const src = "fn f() { a + b * c.d(1); if a {} } impl S {} impl T for S {} # use a::*;"
	first := parse(t, src)
	want := lossless(first)
	counts := map[*api.SyntaxTree]int{}
	addresses(first, counts)
	addresses(parse(t, src), counts)
	for address, count := range counts {
		if count > 1 {
			t.Errorf("%d lists of children have the node %s", count, lossless(*address))
		}
		*address = api.SyntaxTree{Kind: -1}
	}
	if got := lossless(parse(t, src)); got != want {
		t.Errorf("Parse after its result was modified: %s, want %s", got, want)
	}
}
