package parser_test

import "testing"

func TestItems(t *testing.T) {
	checkItems(t, []sample{
		{"", ""},
		{"use a;", "[Use use `a ;]"},
		{"use a::b::c;", "[Use use [Path [Segment a] :: [Segment b] :: [Segment c]] ;]"},
		{"use a as b;", "[Use use `a as b ;]"},
		{"pub use a::b as c;", "[Use pub use [Path [Segment a] :: [Segment b]] as c ;]"},
		{"use a::*;", "[Use use `a :: * ;]"},
		{"use a::b::*;", "[Use use [Path [Segment a] :: [Segment b]] :: * ;]"},
		{"pub use a::*;", "[Use pub use `a :: * ;]"},
		{"fn f() {}", "[Func fn f [TypeParams] ( [Params )] ~ [Block { ~ }]]"},
		{"pub fn f() {}", "[Func pub fn f [TypeParams] ( [Params )] ~ [Block { ~ }]]"},
		{"fn f() -> int {}", "[Func fn f [TypeParams] ( [Params )] -> `int [Block { ~ }]]"},
		{"fn f<A, B>(a: A) -> B {}", "[Func fn f [TypeParams < [TypeParam A] , [TypeParam B] >] " +
			"( [Params [Param a : `A] )] -> `B [Block { ~ }]]"},
		{"struct S {}", "[Struct struct S [TypeParams] { }]"},
		{"pub struct S<A> { a: A, b: &mut B, }", "[Struct pub struct S [TypeParams < [TypeParam A] >] " +
			"{ [Field a : `A] , [Field b : [RefType & mut `B]] , }]"},
		{"struct S { a: int }", "[Struct struct S [TypeParams] { [Field a : `int] }]"},
		{"enum E {}", "[Enum enum E [TypeParams] { }]"},
		{"pub enum E<A> { A, B(int), c(A, B,), d(), }", "[Enum pub enum E [TypeParams < [TypeParam A] >] { " +
			"[Variant A] , [Variant B ( `int )] , [Variant c ( `A , `B , )] , [Variant d ( )] , }]"},
		{"enum E { A, B }", "[Enum enum E [TypeParams] { [Variant A] , [Variant B] }]"},
		{"trait T {}", "[Trait trait T { }]"},
		{"pub trait T { type A; }", "[Trait pub trait T { [AssocType type A ~ ;] }]"},
		{"impl S {}", "[Impl impl [TypeParams] ~ `S { }]"},
		{"pub impl S {}", "[Impl pub impl [TypeParams] ~ `S { }]"},
		{"impl T for S {}", "[Impl impl [TypeParams] `T for `S { }]"},
		{"impl<A> T<A> for &S<A> {}", "[Impl impl [TypeParams < [TypeParam A] >] [Path [Segment T < `A >]] for " +
			"[RefType & [Path [Segment S < `A >]]] { }]"},
		{"impl &T for fn() {}", "[Impl impl [TypeParams] [RefType & `T] for [FuncType fn ( ) ~] { }]"},
		{"impl fn() -> T for S {}", "[Impl impl [TypeParams] [FuncType fn ( ) -> `T] for `S { }]"},
		{"const c: int = 1;", "[Const const c : `int = 1 ;]"},
		{"pub const c: bool = a;", "[Const pub const c : `bool = `a ;]"},
		{"macro m() = 1;", "[Macro macro m ( [Params )] = 1 ;]"},
		{"pub macro m(a, b) = a + b;", "[Macro pub macro m ( [Params [Param a ~] , [Param b ~] )] = [Binary `a + `b] ;]"},
		{"macro m(a: int) = a;", "[Macro macro m ( [Params [Param a : `int] )] = `a ;]"},
		{"use a; const c: int = 1; fn f() {} use b;", "[Use use `a ;] [Const const c : `int = 1 ;] " +
			"[Func fn f [TypeParams] ( [Params )] ~ [Block { ~ }]] [Use use `b ;]"},
	})
}

func TestMembers(t *testing.T) {
	checkWithin(t, "trait T {", " [Trait trait T { ", "}", " }]", []sample{
		{"type A;", "[AssocType type A ~ ;]"},
		{"type A = int;", "[AssocType type A = `int ;]"},
		{"fn f();", "[Func fn f [TypeParams] ( [Params )] ~ ; ~]"},
		{"fn f() -> A;", "[Func fn f [TypeParams] ( [Params )] -> `A ; ~]"},
		{"fn f<A>(self: &Self, a: A) {}", "[Func fn f [TypeParams < [TypeParam A] >] " +
			"( [Params [Param self : [RefType & `Self]] , [Param a : `A] )] ~ [Block { ~ }]]"},
		{"fn f() {} type A; fn g();", "[Func fn f [TypeParams] ( [Params )] ~ [Block { ~ }]] [AssocType type A ~ ;] " +
			"[Func fn g [TypeParams] ( [Params )] ~ ; ~]"},
	})
	checkFile(t, "impl T for S { type A = B; fn f() -> int { 1 } fn g(); }", " [Impl impl [TypeParams] `T for `S { "+
		"[AssocType type A = `B ;] [Func fn f [TypeParams] ( [Params )] -> `int [Block { 1 }]] "+
		"[Func fn g [TypeParams] ( [Params )] ~ ; ~] }]")
}

func TestParameters(t *testing.T) {
	checkWithin(t, "fn f(", " [Func fn f [TypeParams] ( [Params ", ") {}", " )] ~ [Block { ~ }]]", []sample{
		{"a", "[Param a ~]"},
		{"a,", "[Param a ~] ,"},
		{"a: int", "[Param a : `int]"},
		{"a: int, b, c: fn(),", "[Param a : `int] , [Param b ~] , [Param c : [FuncType fn ( ) ~]] ,"},
		{"_: int", "[Param _ : `int]"},
	})
	checkWithin(t, "struct S<", " [Struct struct S [TypeParams < ", "> {}", " >] { }]", []sample{
		{"A", "[TypeParam A]"},
		{"A,", "[TypeParam A] ,"},
		{"A: T", "[TypeParam A : `T]"},
		{"A: T + U + a::E", "[TypeParam A : `T + `U + [Path [Segment a] :: [Segment E]]]"},
		{"A: T<B>, B: U,", "[TypeParam A : [Path [Segment T < `B >]]] , [TypeParam B : `U] ,"},
	})
	checkFile(t, "struct S<> {}", " [Struct struct S [TypeParams < >] { }]")
}

func TestTypes(t *testing.T) {
	checkTypes(t, []sample{
		{"int", "`int"},
		{"&int", "[RefType & `int]"},
		{"&mut int", "[RefType & mut `int]"},
		{"& &mut &A", "[RefType & [RefType & mut [RefType & `A]]]"},
		{"fn()", "[FuncType fn ( ) ~]"},
		{"fn(int) -> bool", "[FuncType fn ( `int ) -> `bool]"},
		{"fn(A, B,) -> fn() -> &E", "[FuncType fn ( `A , `B , ) -> [FuncType fn ( ) -> [RefType & `E]]]"},
		{"fn(fn(A) -> B, &A)", "[FuncType fn ( [FuncType fn ( `A ) -> `B] , [RefType & `A] ) ~]"},
		{"&fn(A) -> B", "[RefType & [FuncType fn ( `A ) -> `B]]"},
		{"a::b::S", "[Path [Segment a] :: [Segment b] :: [Segment S]]"},
		{"S<A>", "[Path [Segment S < `A >]]"},
		{"S<>", "[Path [Segment S < >]]"},
		{"S<A, &B,>", "[Path [Segment S < `A , [RefType & `B] , >]]"},
		{"S<T<A>>", "[Path [Segment S < [Path [Segment T < `A >]] >]]"},
		{"S<fn(A) -> B>", "[Path [Segment S < [FuncType fn ( `A ) -> `B] >]]"},
		{"a<A>::b::S<B>", "[Path [Segment a < `A >] :: [Segment b] :: [Segment S < `B >]]"},
		{"Self::A", "[Path [Segment Self] :: [Segment A]]"},
		{"_", "[Path [Segment _]]"},
	})
}

func TestOperators(t *testing.T) {
	checkExpressions(t, []sample{
		{"a || b", "[Binary `a || `b]"},
		{"a && b", "[Binary `a && `b]"},
		{"a == b", "[Binary `a == `b]"},
		{"a < b", "[Binary `a < `b]"},
		{"a + b", "[Binary `a + `b]"},
		{"a - b", "[Binary `a - `b]"},
		{"a * b", "[Binary `a * `b]"},
		{"a / b", "[Binary `a / `b]"},
		{"a || b || c", "[Binary [Binary `a || `b] || `c]"},
		{"a && b && c", "[Binary [Binary `a && `b] && `c]"},
		{"a - b + c - d", "[Binary [Binary [Binary `a - `b] + `c] - `d]"},
		{"a / b * c / d", "[Binary [Binary [Binary `a / `b] * `c] / `d]"},
		{"a || b && c == d + e * f", "[Binary `a || [Binary `b && [Binary `c == [Binary `d + [Binary `e * `f]]]]]"},
		{"a * b + c < d && e || f", "[Binary [Binary [Binary [Binary [Binary `a * `b] + `c] < `d] && `e] || `f]"},
		{"a + b * c - d / e", "[Binary [Binary `a + [Binary `b * `c]] - [Binary `d / `e]]"},
		{"a && b || c && d", "[Binary [Binary `a && `b] || [Binary `c && `d]]"},
		{"a == b && c < d", "[Binary [Binary `a == `b] && [Binary `c < `d]]"},
		{"a + b == c - d", "[Binary [Binary `a + `b] == [Binary `c - `d]]"},
		{"(a + b) * c", "[Binary [Paren ( [Binary `a + `b] )] * `c]"},
		{"(a == b) == c", "[Binary [Paren ( [Binary `a == `b] )] == `c]"},
		{"-a", "[Unary - `a]"},
		{"!a", "[Unary ! `a]"},
		{"*a", "[Unary * `a]"},
		{"&a", "[Borrow & `a]"},
		{"&mut a", "[Borrow & mut `a]"},
		{"-!*& &mut a", "[Unary - [Unary ! [Unary * [Borrow & [Borrow & mut `a]]]]]"},
		{"-a + -b", "[Binary [Unary - `a] + [Unary - `b]]"},
		{"a - -1", "[Binary `a - [Unary - 1]]"},
		{"a * *b", "[Binary `a * [Unary * `b]]"},
		{"a && &b", "[Binary `a && [Borrow & `b]]"},
		{"&a && b", "[Binary [Borrow & `a] && `b]"},
		{"-a * b", "[Binary [Unary - `a] * `b]"},
		{"-a.b", "[Unary - [FieldAccess `a . b]]"},
		{"*a(b)", "[Unary * [Call `a ( `b )]]"},
		{"&mut a.b(c)", "[Borrow & mut [MethodCall `a . b ( `c )]]"},
		{"!(a)", "[Unary ! [Paren ( `a )]]"},
	})
}

// A comparison is not an operand of another one.
func TestComparisons(t *testing.T) {
	checkBlocks(t, []sample{
		{"a == b == c", "[ExprStmt [Binary `a == `b] ?] [Binary [Error] == `c]"},
		{"a < b == c;", "[ExprStmt [Binary `a < `b] ?] [ExprStmt [Binary [Error] == `c] ;] ~"},
		{"a || b < c < d", "[ExprStmt [Binary `a || [Binary `b < `c]] ?] [Binary [Error] < `d]"},
		{"a < |x| b < c < d", "[ExprStmt [Binary `a < [Lambda | [Params [Param x ~] |] [Binary `b < `c]]] ?] [Binary [Error] < `d]"},
		{"a + |x| b < c < d", "[Binary [Binary `a + [Lambda | [Params [Param x ~] |] [Binary `b < `c]]] < `d]"},
	})
}

func TestPostfix(t *testing.T) {
	checkExpressions(t, []sample{
		{"a()", "[Call `a ( )]"},
		{"a(1)", "[Call `a ( 1 )]"},
		{"a(1, b + c,)", "[Call `a ( 1 , [Binary `b + `c] , )]"},
		{"a(1)(2)", "[Call [Call `a ( 1 )] ( 2 )]"},
		{"a::b(1)", "[Call [Path [Segment a] :: [Segment b]] ( 1 )]"},
		{"(a)(1)", "[Call [Paren ( `a )] ( 1 )]"},
		{"a.b", "[FieldAccess `a . b]"},
		{"a.b.c", "[FieldAccess [FieldAccess `a . b] . c]"},
		{"a.b()", "[MethodCall `a . b ( )]"},
		{"a.b(1, 2).c(3)", "[MethodCall [MethodCall `a . b ( 1 , 2 )] . c ( 3 )]"},
		{"a.b(1)(2)", "[Call [MethodCall `a . b ( 1 )] ( 2 )]"},
		{"a(1).b(2).c", "[FieldAccess [MethodCall [Call `a ( 1 )] . b ( 2 )] . c]"},
		{"(a.b)(1)", "[Call [Paren ( [FieldAccess `a . b] )] ( 1 )]"},
		{"1.a", "[FieldAccess 1 . a]"},
		{`"s".a()`, `[MethodCall [String "s"] . a ( )]`},
		{"{1}(2)", "[Call [Block { 1 }] ( 2 )]"},
		{"if a {b} else {c}.d", "[FieldAccess [If if `a [Block { `b }] else [Block { `c }]] . d]"},
		{"match a {}.b", "[FieldAccess [Match match `a { }] . b]"},
		{"new S {}.a", "[FieldAccess [StructLit new `S { }] . a]"},
		{"m!(1).a", "[FieldAccess [MacroCall `m ! ( 1 )] . a]"},
	})
}

func TestPrimaries(t *testing.T) {
	checkExpressions(t, []sample{
		{"0", "0"},
		{`"a b"`, `[String "a b"]`},
		{"true", "[Bool true]"},
		{"false", "[Bool false]"},
		{"a", "`a"},
		{"_", "[Path [Segment _]]"},
		{"a::b::c", "[Path [Segment a] :: [Segment b] :: [Segment c]]"},
		{"a < b", "[Binary `a < `b]"},
		{"m!()", "[MacroCall `m ! ( )]"},
		{"m!(1, a,)", "[MacroCall `m ! ( 1 , `a , )]"},
		{"a::m!(b)", "[MacroCall [Path [Segment a] :: [Segment m]] ! ( `b )]"},
		{"m ! // c\n ( 1 )", "[MacroCall `m ! ( 1 )]"},
		{"m!(1)(2)", "[Call [MacroCall `m ! ( 1 )] ( 2 )]"},
		{"(1)", "[Paren ( 1 )]"},
		{"((a))", "[Paren ( [Paren ( `a )] )]"},
		{"{}", "[Block { ~ }]"},
		{"{ 1 }", "[Block { 1 }]"},
		{"{} + 1", "[Binary [Block { ~ }] + 1]"},
		{"new S {}", "[StructLit new `S { }]"},
		{"new a::S { a: 1, b: -c, }", "[StructLit new [Path [Segment a] :: [Segment S]] " +
			"{ [FieldInit a : 1] , [FieldInit b : [Unary - `c]] , }]"},
		{"if a {}", "[If if `a [Block { ~ }] ~]"},
		{"if a {} else {}", "[If if `a [Block { ~ }] else [Block { ~ }]]"},
		{"if a {} else if b {} else {}", "[If if `a [Block { ~ }] else [If if `b [Block { ~ }] else [Block { ~ }]]]"},
		{"if a {} else if b {}", "[If if `a [Block { ~ }] else [If if `b [Block { ~ }] ~]]"},
		{"if a {} + 1", "[Binary [If if `a [Block { ~ }] ~] + 1]"},
		{"if {a} {b}", "[If if [Block { `a }] [Block { `b }] ~]"},
		{"if new S {} {}", "[If if [StructLit new `S { }] [Block { ~ }] ~]"},
		{"match a {}", "[Match match `a { }]"},
		{"match a { x => 1 }", "[Match match `a { [MatchArm [Binding x] => 1] }]"},
		{"match a { 1 => {}, _ => b + 1, }", "[Match match `a { [MatchArm 1 => [Block { ~ }]] , " +
			"[MatchArm [Wildcard _] => [Binary `b + 1]] , }]"},
		{"match match a {} {}", "[Match match [Match match `a { }] { }]"},
		{"|| 1", "[Lambda || [Params] 1]"},
		{"| | 1", "[Lambda | [Params |] 1]"},
		{"|x| 1", "[Lambda | [Params [Param x ~] |] 1]"},
		{"|x, y: &int,| x + y", "[Lambda | [Params [Param x ~] , [Param y : [RefType & `int]] , |] [Binary `x + `y]]"},
		{"|x| |y| x", "[Lambda | [Params [Param x ~] |] [Lambda | [Params [Param y ~] |] `x]]"},
		{"|| || 1", "[Lambda || [Params] [Lambda || [Params] 1]]"},
		{"a || || b", "[Binary `a || [Lambda || [Params] `b]]"},
		{"-|x| x", "[Unary - [Lambda | [Params [Param x ~] |] `x]]"},
		{"|x| x || y", "[Lambda | [Params [Param x ~] |] [Binary `x || `y]]"},
		{"|x| x(1)", "[Lambda | [Params [Param x ~] |] [Call `x ( 1 )]]"},
		{"f(|x| x, 1)", "[Call `f ( [Lambda | [Params [Param x ~] |] `x] , 1 )]"},
	})
}

func TestStatements(t *testing.T) {
	checkBlocks(t, []sample{
		{"", "~"},
		{"let x = 1;", "[Let let [Binding x] ~ = 1 ;] ~"},
		{"let mut x: &int = a;", "[Let let [Binding mut x] : [RefType & `int] = `a ;] ~"},
		{"let E(x, _) = a;", "[Let let [VariantMatch `E ( [Binding x] , [Wildcard _] )] ~ = `a ;] ~"},
		{"let x = if a {} else {};", "[Let let [Binding x] ~ = [If if `a [Block { ~ }] else [Block { ~ }]] ;] ~"},
		{"while a {}", "[While while `a [Block { ~ }]] ~"},
		{"while a < b { c; }", "[While while [Binary `a < `b] [Block { [ExprStmt `c ;] ~ }]] ~"},
		{"while a {} b", "[While while `a [Block { ~ }]] `b"},
		{"return;", "[Return return ~ ;] ~"},
		{"return 1;", "[Return return 1 ;] ~"},
		{"return -a; b", "[Return return [Unary - `a] ;] `b"},
		{"return if a {} else {};", "[Return return [If if `a [Block { ~ }] else [Block { ~ }]] ;] ~"},
		{"a = 1;", "[Assign `a = 1 ;] ~"},
		{"a.b = c;", "[Assign [FieldAccess `a . b] = `c ;] ~"},
		{"*a = b + 1;", "[Assign [Unary * `a] = [Binary `b + 1] ;] ~"},
		{"a + b = c;", "[Assign [Binary `a + `b] = `c ;] ~"},
		{"a;", "[ExprStmt `a ;] ~"},
		{"a", "`a"},
		{"a; b", "[ExprStmt `a ;] `b"},
		{"a(); b.c(); d", "[ExprStmt [Call `a ( )] ;] [ExprStmt [MethodCall `b . c ( )] ;] `d"},
		{"|x| x", "[Lambda | [Params [Param x ~] |] `x]"},
		{"|| 1;", "[ExprStmt [Lambda || [Params] 1] ;] ~"},
		{"new S {}", "[StructLit new `S { }]"},
		{"(a)", "[Paren ( `a )]"},
	})
}

// Statements that start with if, match or { consist of that expression only.
func TestBlockLikeStatements(t *testing.T) {
	const loop = "[If if `a [Block { ~ }] ~]"
	const choice = "[Match match `a { }]"
	checkBlocks(t, []sample{
		{"if a {}", loop},
		{"if a {};", "[ExprStmt " + loop + " ;] ~"},
		{"if a {} b", "[ExprStmt " + loop + "] `b"},
		{"if a {} if a {}", "[ExprStmt " + loop + "] " + loop},
		{"if a {} else {} ; if a {} ;", "[ExprStmt [If if `a [Block { ~ }] else [Block { ~ }]] ;] [ExprStmt " + loop + " ;] ~"},
		{"if a {} - 1", "[ExprStmt " + loop + "] [Unary - 1]"},
		{"if a {} (1)", "[ExprStmt " + loop + "] [Paren ( 1 )]"},
		{"if a {} *b = 1;", "[ExprStmt " + loop + "] [Assign [Unary * `b] = 1 ;] ~"},
		{"if a {} || 1", "[ExprStmt " + loop + "] [Lambda || [Params] 1]"},
		{"match a {}", choice},
		{"match a {};", "[ExprStmt " + choice + " ;] ~"},
		{"match a {} let x = 1;", "[ExprStmt " + choice + "] [Let let [Binding x] ~ = 1 ;] ~"},
		{"match a {} &b", "[ExprStmt " + choice + "] [Borrow & `b]"},
		{"{}", "[Block { ~ }]"},
		{"{};", "[ExprStmt [Block { ~ }] ;] ~"},
		{"{} {}", "[ExprStmt [Block { ~ }]] [Block { ~ }]"},
		{"{a} -1; b", "[ExprStmt [Block { `a }]] [ExprStmt [Unary - 1] ;] `b"},
		{"({}) + 1", "[Binary [Paren ( [Block { ~ }] )] + 1]"},
		{"-{} + 1", "[Binary [Unary - [Block { ~ }]] + 1]"},
	})
}

func TestPatterns(t *testing.T) {
	checkPatterns(t, []sample{
		{"_", "[Wildcard _]"},
		{"x", "[Binding x]"},
		{"__", "[Binding __]"},
		{"mut x", "[Binding mut x]"},
		{"mut _", "[Binding mut _]"},
		{"12", "[Int 12]"},
		{"true", "[Bool true]"},
		{"false", "[Bool false]"},
		{"A()", "[VariantMatch `A ( )]"},
		{"A(x)", "[VariantMatch `A ( [Binding x] )]"},
		{"A ( x , )", "[VariantMatch `A ( [Binding x] , )]"},
		{"E::A", "[VariantMatch [Path [Segment E] :: [Segment A]]]"},
		{"a::E::A(_, 1, mut x, true, y)", "[VariantMatch [Path [Segment a] :: [Segment E] :: [Segment A]] " +
			"( [Wildcard _] , 1 , [Binding mut x] , [Bool true] , [Binding y] )]"},
		{"A(B(x), E::A)", "[VariantMatch `A ( [VariantMatch `B ( [Binding x] )] , " +
			"[VariantMatch [Path [Segment E] :: [Segment A]]] )]"},
		{"E::_", "[VariantMatch [Path [Segment E] :: [Segment _]]]"},
	})
	checkFile(t, "fn f() { let _: int = 1; let E::A = a; }", " [Func fn f [TypeParams] ( [Params )] ~ [Block { "+
		"[Let let [Wildcard _] : `int = 1 ;] [Let let [VariantMatch [Path [Segment E] :: [Segment A]]] ~ = `a ;] ~ }]]")
}
