package ast_test

import (
	"strings"
	"testing"

	"glossator/api"
	"glossator/ast"
)

// sourceShape is a source, or a part of one, and its tree.
type sourceShape struct{ src, want string }

// checkShapes compares the trees of sources, which are written between two
// texts, with the wanted ones in the notation of the tests.
func checkShapes(t *testing.T, before, after string, shapeOf func(api.Node) api.Node, tests []sourceShape) {
	t.Helper()
	for _, test := range tests {
		node := shapeOf(parseClean(t, before+test.src+after))
		if got := abbreviate(shape(node)); got != test.want {
			t.Errorf("the tree of %q is\n%s, want\n%s", test.src, got, test.want)
		}
	}
}

// at returns the descendant of a node to which indices lead.
func at(node api.Node, indices ...int) api.Node {
	for _, index := range indices {
		node = node.Children[index]
	}
	return node
}

// last returns the last child of a node.
func last(node api.Node) api.Node { return at(node, len(node.Children)-1) }

func firstItem(file api.Node) api.Node { return at(file, 0) }

// blockValue returns the value of the block of a function that is all of a file.
func blockValue(file api.Node) api.Node { return last(at(file, 0, 3)) }

func TestParseItems(t *testing.T) {
	checkShapes(t, "", "", firstItem, []sourceShape{
		{"use a;", "[Use `a]"},
		{"use a::b as c;", `[Use "c" [Path [Segment "a"] [Segment "b"]]]`},
		{"use a::*;", "[Use 2 `a]"},
		{"pub use a;", "[Use 1 `a]"},
		{"pub use a as b;", "[Use 1 \"b\" `a]"},
		{"pub use a::b::*;", `[Use 3 [Path [Segment "a"] [Segment "b"]]]`},
		{"fn f() {}", `[Func "f" [TypeParams] [Params] - [Block -]]`},
		{"pub fn f<T: A + B<int>, U,>(a: int, b) -> &mut T { 1 }", `[Func 1 "f" ` +
			"[TypeParams [TypeParam \"T\" `A [Path [Segment \"B\" `int]]] [TypeParam \"U\"]] " +
			"[Params [Param \"a\" `int] [Param \"b\" -]] [RefType 1 `T] [Block [Int 1]]]"},
		{"struct S {}", `[Struct "S" [TypeParams]]`},
		{"pub struct S<T> { a: int, b: T, }",
			"[Struct 1 \"S\" [TypeParams [TypeParam \"T\"]] [Field \"a\" `int] [Field \"b\" `T]]"},
		{"enum E<> { A, B(), C(int, T) }",
			"[Enum \"E\" [TypeParams] [Variant \"A\"] [Variant \"B\"] [Variant \"C\" `int `T]]"},
		{"pub enum E {}", `[Enum 1 "E" [TypeParams]]`},
		{"trait T {}", `[Trait "T"]`},
		{"pub trait T { type A; type B = int; fn f(self); fn g() -> int { 1 } }", `[Trait 1 "T" ` +
			"[AssocType \"A\" -] [AssocType \"B\" `int] [Func \"f\" [TypeParams] [Params [Param \"self\" -]] - -] " +
			"[Func \"g\" [TypeParams] [Params] `int [Block [Int 1]]]]"},
		{"impl S {}", "[Impl [TypeParams] - `S]"},
		{"pub impl<T> A<T> for S<T> { type A = T; fn f() {} }", "[Impl 1 [TypeParams [TypeParam \"T\"]] " +
			"[Path [Segment \"A\" `T]] [Path [Segment \"S\" `T]] [AssocType \"A\" `T] " +
			"[Func \"f\" [TypeParams] [Params] - [Block -]]]"},
		{"impl &S for fn() {}", "[Impl [TypeParams] [RefType `S] [FuncType -]]"},
		{"const c: fn(int, & &bool) -> int = 1;", "[Const \"c\" [FuncType `int [RefType [RefType `bool]] `int] [Int 1]]"},
		{"pub const c: a::b<S>::T = 1;", `[Const 1 "c" [Path [Segment "a"] ` +
			"[Segment \"b\" `S] [Segment \"T\"]] [Int 1]]"},
		{"macro m() = a;", "[Macro \"m\" [Params] `a]"},
		{"pub macro m(a, b: int) = a;", "[Macro 1 \"m\" [Params [Param \"a\" -] [Param \"b\" `int]] `a]"},
	})
}

func TestParseFile(t *testing.T) {
	checkShapes(t, "", "", func(file api.Node) api.Node { return file }, []sourceShape{
		{"", "[File]"},
		{" // comment", "[File]"},
		{"use a; use b; // comment", "[File [Use `a] [Use `b]]"},
	})
}

func TestParseStatements(t *testing.T) {
	checkShapes(t, "fn f() {", "}", func(file api.Node) api.Node { return at(file, 0, 3) }, []sourceShape{
		{"", "[Block -]"},
		{"1", "[Block [Int 1]]"},
		{"x; x", "[Block [ExprStmt `x] `x]"},
		{"let x = 1;", `[Block [Let [Binding "x"] - [Int 1]] -]`},
		{"let mut x: &mut int = 1;", "[Block [Let [Binding 1 \"x\"] [RefType 1 `int] [Int 1]] -]"},
		{"x = y;", "[Block [Assign `x `y] -]"},
		{"a.b = 3; *p = 4; 1 = 2;", "[Block [Assign [FieldAccess \"b\" `a] [Int 3]] " +
			"[Assign [Unary \"*\" `p] [Int 4]] [Assign [Int 1] [Int 2]] -]"},
		{"while true {}", "[Block [While [Bool 1] [Block -]] -]"},
		{"return; return x;", "[Block [Return -] [Return `x] -]"},
		{"if a {} match c {} {} if a {};", "[Block [ExprStmt [If `a [Block -] -]] [ExprStmt [Match `c]] " +
			"[ExprStmt [Block -]] [ExprStmt [If `a [Block -] -]] -]"},
	})
}

func TestParseExpressions(t *testing.T) {
	checkShapes(t, "fn f() {", "}", blockValue, []sourceShape{
		{"0", "[Int]"},
		{"007", "[Int 7]"},
		{"2147483647", "[Int 2147483647]"},
		{"true", "[Bool 1]"},
		{"false", "[Bool]"},
		{`""`, "[String]"},
		{"a::b", `[Path [Segment "a"] [Segment "b"]]`},
		{"((a))", "`a"},
		{"-1 + 2 * !x < *y && a == b || c", "[Binary \"||\" [Binary \"&&\" [Binary \"<\" " +
			"[Binary \"+\" [Unary \"-\" [Int 1]] [Binary \"*\" [Int 2] [Unary \"!\" `x]]] [Unary \"*\" `y]] " +
			"[Binary \"==\" `a `b]] `c]"},
		{"a - (b - c) / d", "[Binary \"-\" `a [Binary \"/\" [Binary \"-\" `b `c] `d]]"},
		{"&mut &x", "[Borrow 1 [Borrow `x]]"},
		{"f()(1, 2).g(4).h.i", "[FieldAccess \"i\" [FieldAccess \"h\" " +
			"[MethodCall \"g\" [Call [Call `f] [Int 1] [Int 2]] [Int 4]]]]"},
		{"(a.b)()", "[Call [FieldAccess \"b\" `a]]"},
		{"m!(x, (y))", "[MacroCall `m `x `y]"},
		{"new a::S { x: 1, y: z, }", "[StructLit [Path [Segment \"a\"] [Segment \"S\"]] " +
			"[FieldInit \"x\" [Int 1]] [FieldInit \"y\" `z]]"},
		{"new S {}", "[StructLit `S]"},
		{"match x { _ => 1, mut y => 2, z => 3, 7 => 4, }", "[Match `x [MatchArm [Wildcard] [Int 1]] " +
			"[MatchArm [Binding 1 \"y\"] [Int 2]] [MatchArm [Binding \"z\"] [Int 3]] [MatchArm [Int 7] [Int 4]]]"},
		{"match x { true => 5, A(b, _) => 6, a::B => 7, C() => 8 }", "[Match `x [MatchArm [Bool 1] [Int 5]] " +
			"[MatchArm [VariantMatch `A [Binding \"b\"] [Wildcard]] [Int 6]] " +
			"[MatchArm [VariantMatch [Path [Segment \"a\"] [Segment \"B\"]]] [Int 7]] " +
			"[MatchArm [VariantMatch `C] [Int 8]]]"},
		{"if a { 1 }", "[If `a [Block [Int 1]] -]"},
		{"if a {} else if b {} else { 3 }", "[If `a [Block -] [If `b [Block -] [Block [Int 3]]]]"},
		{"|a, b: int,| a", "[Lambda [Params [Param \"a\" -] [Param \"b\" `int]] `a]"},
		{"|| | | 1", "[Lambda [Params] [Lambda [Params] [Int 1]]]"},
		{"{ { x } }", "[Block [Block `x]]"},
	})
}

func TestParseStrings(t *testing.T) {
	for _, test := range []struct{ literal, want string }{
		{`""`, ""},
		{`"a//b"`, "a//b"},
		{`"a\nb"`, "a\nb"},
		{`"\"\\\n"`, "\"\\\n"},
		{`"\\n\\\n"`, "\\n\\\n"},
		{`"\x\ \t\\\'"`, `x t\'`},
		{"\"\\\xc3\xa9\xff\t\x00\"", "\xc3\xa9\xff\t\x00"},
		{"\"\\\r\"", "\r"},
	} {
		node, _ := parse(t, "const c: int = "+test.literal+";")
		if got := at(node, 0, 1); got.Kind != api.NodeString || got.Text != test.want {
			t.Errorf("the value of %s is %q, want %q", test.literal, got.Text, test.want)
		}
	}
}

func TestParseIntegers(t *testing.T) {
	for _, test := range []struct {
		literal string
		want    int
	}{
		{"0", 0}, {"000", 0}, {"12", 12}, {"0012", 12}, {"2147483647", 2147483647},
		{"2147483648", 2147483647}, {"9223372036854775808", 2147483647},
		{"18446744073709551617", 2147483647}, {strings.Repeat("9", 1900), 2147483647},
		{strings.Repeat("0", 1900) + "3", 3},
	} {
		node, _ := parse(t, "const c: int = "+test.literal+";")
		if got := at(node, 0, 1); got.Kind != api.NodeInt || got.Value != test.want {
			t.Errorf("the value of %s is %d, want %d", test.literal, got.Value, test.want)
		}
	}
}

// TestParseErroneousShapes checks that the shape is the same where something
// is missing or unexpected.
func TestParseErroneousShapes(t *testing.T) {
	for _, test := range []sourceShape{
		{"fn", `[File [Func [TypeParams] [Params] - [Block -]]]`},
		{"use", "[File [Use [Path [Segment]]]]"},
		{"use a as ;", "[File [Use `a]]"},
		{"impl", "[File [Impl [TypeParams] - [Error]]]"},
		{"const c: int = ;", "[File [Const \"c\" `int [Error]]]"},
		{"const : = -;", "[File [Const [Error] [Unary \"-\" [Error]]]]"},
		{"macro m(1, a", "[File [Macro \"m\" [Params [Error \"1\"] [Param \"a\" -]] [Error]]]"},
		{"fn f() { let = .x + ; mut }", "[File [Func \"f\" [TypeParams] [Params] - [Block " +
			"[Let [Error] - [Binary \"+\" [FieldAccess \"x\" [Error]] [Error]]] [Error \"mut\"] -]]]"},
		{"fn f() { a.(1); a.; mut }", "[File [Func \"f\" [TypeParams] [Params] - [Block " +
			"[ExprStmt [MethodCall `a [Int 1]]] [ExprStmt [FieldAccess `a]] [Error \"mut\"] -]]]"},
		{"fn f() { match a { pub } true { mut => }", "[File [Func \"f\" [TypeParams] [Params] - " +
			"[Block [ExprStmt [Match `a]] -]] [Error \"pub } true { mut => }\"]]"},
		{"fn f() { match a { mut => } }", "[File [Func \"f\" [TypeParams] [Params] - " +
			"[Block [Match `a [MatchArm [Binding 1] [Error]]]]]]"},
		{"x // y\n \"z\" # use a;", "[File [Error \"x // y\\n \\\"z\\\" #\"] [Use `a]]"},
		{"struct S { pub a: int }", "[File [Struct \"S\" [TypeParams]] [Error \"pub a: int }\"]]"},
		{"struct S { mut, a: int }", "[File [Struct \"S\" [TypeParams] [Error \"mut\"] [Field \"a\" `int]]]"},
		{"fn f() { mut x = () + (; }", "[File [Func \"f\" [TypeParams] [Params] - [Block [Error \"mut\"] " +
			"[Assign `x [Binary \"+\" [Error \"()\"] [Error \"(\"]]] -]]]"},
	} {
		node, _ := parse(t, test.src)
		if got := abbreviate(shape(node)); got != test.want {
			t.Errorf("the tree of %q is\n%s, want\n%s", test.src, got, test.want)
		}
	}
}

func TestParseTooLarge(t *testing.T) {
	for _, length := range []int{api.MaxSource - 1, api.MaxSource, api.MaxSource + 1} {
		node, diagnostics, err := ast.Parse(strings.Repeat(";", length))
		if length <= api.MaxSource {
			if err != api.OK || node.End != length || len(diagnostics) != 1 {
				t.Errorf("%d bytes: %v, %v, %v", length, node, diagnostics, err)
			}
		} else if err != api.ErrTooLarge || !same(node, api.Node{}) || len(diagnostics) != 0 {
			t.Errorf("%d bytes: %v, %v, %v", length, node, diagnostics, err)
		}
	}
}
