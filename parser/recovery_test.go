package parser_test

import "testing"

func TestMissingTokensOfItems(t *testing.T) {
	checkItems(t, []sample{
		{"fn", "[Func fn ? [TypeParams] ? [Params ?] ~ [Block ? ~ ?]]"},
		{"fn f", "[Func fn f [TypeParams] ? [Params ?] ~ [Block ? ~ ?]]"},
		{"fn f()", "[Func fn f [TypeParams] ( [Params )] ~ [Block ? ~ ?]]"},
		{"fn f() ->", "[Func fn f [TypeParams] ( [Params )] -> [Error] [Block ? ~ ?]]"},
		{"fn f() -> {}", "[Func fn f [TypeParams] ( [Params )] -> [Error] [Block { ~ }]]"},
		{"fn f() {", "[Func fn f [TypeParams] ( [Params )] ~ [Block { ~ ?]]"},
		{"fn () {}", "[Func fn ? [TypeParams] ( [Params )] ~ [Block { ~ }]]"},
		{"fn f) {}", "[Func fn f [TypeParams] ? [Params )] ~ [Block { ~ }]]"},
		{"fn f a: int) {}", "[Func fn f [TypeParams] ? [Params [Param a : `int] )] ~ [Block { ~ }]]"},
		{"fn f() a }", "[Func fn f [TypeParams] ( [Params )] ~ [Block ? `a }]]"},
		{"fn f();", "[Func fn f [TypeParams] ( [Params )] ~ [Block ? [Error ;] ~ ?]]"},
		{"pub fn", "[Func pub fn ? [TypeParams] ? [Params ?] ~ [Block ? ~ ?]]"},
		{"use", "[Use use [Path [Segment ?]] ?]"},
		{"use;", "[Use use [Path [Segment ?]] ;]"},
		{"use a", "[Use use `a ?]"},
		{"use a as", "[Use use `a as ? ?]"},
		{"use a as;", "[Use use `a as ? ;]"},
		{"use a::", "[Use use [Path [Segment a] :: [Segment ?]] ?]"},
		{"use a::;", "[Use use [Path [Segment a] :: [Segment ?]] ;]"},
		{"use a::::b;", "[Use use [Path [Segment a] :: [Segment ?] :: [Segment b]] ;]"},
		{"use ::a;", "[Use use [Path [Segment ?] :: [Segment a]] ;]"},
		{"use ::*;", "[Use use [Path [Segment ?]] :: * ;]"},
		{"use a::*", "[Use use `a :: * ?]"},
		{"use a::* as b;", "[Use use `a :: * ?] [Error as b ;]"},
		{"use *;", "[Use use [Path [Segment ?]] ?] [Error * ;]"},
		{"use a::b use c;", "[Use use [Path [Segment a] :: [Segment b]] ?] [Use use `c ;]"},
		{"struct", "[Struct struct ? [TypeParams] ? ?]"},
		{"struct S", "[Struct struct S [TypeParams] ? ?]"},
		{"struct {}", "[Struct struct ? [TypeParams] { }]"},
		{"struct S<", "[Struct struct S [TypeParams < ?] ? ?]"},
		{"struct S a: int }", "[Struct struct S [TypeParams] ? [Field a : `int] }]"},
		{"enum", "[Enum enum ? [TypeParams] ? ?]"},
		{"enum E { A(", "[Enum enum E [TypeParams] { [Variant A ( ?] ? ?]"},
		{"trait", "[Trait trait ? ? ?]"},
		{"trait {}", "[Trait trait ? { }]"},
		{"trait T type A; }", "[Trait trait T ? [AssocType type A ~ ;] }]"},
		{"impl", "[Impl impl [TypeParams] ~ [Error] ? ?]"},
		{"impl {}", "[Impl impl [TypeParams] ~ [Error] { }]"},
		{"impl for S {}", "[Impl impl [TypeParams] [Error] for `S { }]"},
		{"impl T for {}", "[Impl impl [TypeParams] `T for [Error] { }]"},
		{"impl T S {}", "[Impl impl [TypeParams] ~ `T ? ?] [Error S { }]"},
		{"const", "[Const const ? ? [Error] ? [Error] ?]"},
		{"const = 1;", "[Const const ? ? [Error] = 1 ;]"},
		{"const c 1;", "[Const const c ? [Error] ? 1 ;]"},
		{"const c: int = ;", "[Const const c : `int = [Error] ;]"},
		{"const c: int = 1 const d: int = 2;", "[Const const c : `int = 1 ?] [Const const d : `int = 2 ;]"},
		{"macro", "[Macro macro ? ? [Params ?] ? [Error] ?]"},
		{"macro m() 1;", "[Macro macro m ( [Params )] ? 1 ;]"},
		{"macro m() = 1 use a;", "[Macro macro m ( [Params )] = 1 ?] [Use use `a ;]"},
	})
}

func TestMembersEnd(t *testing.T) {
	checkItems(t, []sample{
		{"trait T { x }", "[Trait trait T { ?] [Error x }]"},
		{"trait T { type A; x; type B; }", "[Trait trait T { [AssocType type A ~ ;] ?] [Error x ; type B ; }]"},
		{"trait T { const c: int = 1; }", "[Trait trait T { ?] [Const const c : `int = 1 ;] [Error }]"},
		{"trait T { pub fn f() {} }", "[Trait trait T { ?] [Func pub fn f [TypeParams] ( [Params )] ~ [Block { ~ }]] [Error }]"},
		{"trait T { type }", "[Trait trait T { [AssocType type ? ~ ?] }]"},
		{"trait T { type = ; }", "[Trait trait T { [AssocType type ? = [Error] ;] }]"},
		{"trait T { type A fn f(); }", "[Trait trait T { [AssocType type A ~ ?] [Func fn f [TypeParams] ( [Params )] ~ ; ~] }]"},
		{"trait T { fn f() }", "[Trait trait T { [Func fn f [TypeParams] ( [Params )] ~ [Block ? ~ }]] ?]"},
		{"trait T { fn f() a; }", "[Trait trait T { [Func fn f [TypeParams] ( [Params )] ~ [Block ? [ExprStmt `a ;] ~ }]] ?]"},
		{"trait T { fn f() fn g(); }", "[Trait trait T { [Func fn f [TypeParams] ( [Params )] ~ [Block ? ~ ?]] " +
			"[Func fn g [TypeParams] ( [Params )] ~ ; ~] }]"},
		{"trait T { fn f() {}; }", "[Trait trait T { [Func fn f [TypeParams] ( [Params )] ~ [Block { ~ }]] ?] [Error ; }]"},
		{"impl S fn f(); }", "[Impl impl [TypeParams] ~ `S ? [Func fn f [TypeParams] ( [Params )] ~ ; ~] }]"},
		{"impl S { x }", "[Impl impl [TypeParams] ~ `S { ?] [Error x }]"},
	})
}

func TestTopLevelErrors(t *testing.T) {
	checkItems(t, []sample{
		{"1", "[Error 1]"},
		{"1 2 fn", "[Error 1 2] [Func fn ? [TypeParams] ? [Params ?] ~ [Block ? ~ ?]]"},
		{"a { ( # \"b\" let use a;", "[Error a { ( # \"b\" let] [Use use `a ;]"},
		{"use a;; pub use b;", "[Use use `a ;] [Error ;] [Use pub use `b ;]"},
		{"pub", "[Error pub]"},
		{"pub pub", "[Error pub] [Error pub]"},
		{"pub pub use a;", "[Error pub] [Use pub use `a ;]"},
		{"pub a b use a;", "[Error pub a b] [Use use `a ;]"},
		{"pub type A;", "[Error pub type A ;]"},
		{"type A; struct S {}", "[Error type A ;] [Struct struct S [TypeParams] { }]"},
		{"} enum E {}", "[Error }] [Enum enum E [TypeParams] { }]"},
		{"} trait T {}", "[Error }] [Trait trait T { }]"},
		{"} impl S {}", "[Error }] [Impl impl [TypeParams] ~ `S { }]"},
		{"} const c: int = 1;", "[Error }] [Const const c : `int = 1 ;]"},
		{"} macro m() = 1;", "[Error }] [Macro macro m ( [Params )] = 1 ;]"},
		{"let x = 1; while if match return new mut as for else true",
			"[Error let x = 1 ; while if match return new mut as for else true]"},
		{"\"a", "[Error \"a]"},
		{"\x00\xff", "[Error \x00 \xff]"},
	})
}

// checkRest checks samples that end where the source does, as the expression
// of a constant. Its semicolon is missing then.
func checkRest(t *testing.T, samples []sample) {
	t.Helper()
	checkWithin(t, "const c: int = ", " [Const const c : `int = ", "", " ?]", samples)
}

func TestMissingTypes(t *testing.T) {
	checkTypes(t, []sample{
		{"", "[Error]"},
		{"&", "[RefType & [Error]]"},
		{"&mut", "[RefType & mut [Error]]"},
		{"fn() ->", "[FuncType fn ( ) -> [Error]]"},
		{"fn)", "[FuncType fn ? ) ~]"},
		{"fn A)", "[FuncType fn ? `A ) ~]"},
		{"a::", "[Path [Segment a] :: [Segment ?]]"},
		{"a::<A>", "[Path [Segment a] :: [Segment ? < `A >]]"},
		{"a::::b", "[Path [Segment a] :: [Segment ?] :: [Segment b]]"},
	})
	checkItems(t, []sample{
		{"const c: && = 1;", "[Const const c : [Error] ? [Binary [Error] && [Error]] ?] [Error = 1 ;]"},
		{"const c: fn", "[Const const c : [FuncType fn ? ? ~] ? [Error] ?]"},
		{"struct S { a }", "[Struct struct S [TypeParams] { [Field a ? [Error]] }]"},
		{"struct S { a: , b: }", "[Struct struct S [TypeParams] { [Field a : [Error]] , [Field b : [Error]] }]"},
		{"fn f(a:) {}", "[Func fn f [TypeParams] ( [Params [Param a : [Error]] )] ~ [Block { ~ }]]"},
		{"struct S<A:> {}", "[Struct struct S [TypeParams < [TypeParam A : [Path [Segment ?]]] >] { }]"},
		{"struct S<A: T +> {}", "[Struct struct S [TypeParams < [TypeParam A : `T + [Path [Segment ?]]] >] { }]"},
		{"struct S<A: + T> {}", "[Struct struct S [TypeParams < [TypeParam A : [Path [Segment ?]] + `T] >] { }]"},
		{"struct S<A: ::T> {}", "[Struct struct S [TypeParams < [TypeParam A : [Path [Segment ?] :: [Segment T]]] >] { }]"},
	})
}

func TestMissingExpressions(t *testing.T) {
	checkExpressions(t, []sample{
		{"", "[Error]"},
		{"a +", "[Binary `a + [Error]]"},
		{"-", "[Unary - [Error]]"},
		{"&", "[Borrow & [Error]]"},
		{"&mut", "[Borrow & mut [Error]]"},
		{"()", "[Paren ( [Error] )]"},
		{"(1", "[Paren ( 1 ?]"},
		{"a::", "[Path [Segment a] :: [Segment ?]]"},
		{"a.", "[FieldAccess `a . ?]"},
		{"a..b", "[FieldAccess [FieldAccess `a . ?] . b]"},
		{"a.(1)", "[MethodCall `a . ? ( 1 )]"},
		{"|x|", "[Lambda | [Params [Param x ~] |] [Error]]"},
		{"||", "[Lambda || [Params] [Error]]"},
		{"|x:| x", "[Lambda | [Params [Param x : [Error]] |] `x]"},
		{"new {}", "[StructLit new [Path [Segment ?]] { }]"},
		{"new S }", "[StructLit new `S ? }]"},
		{"new S { a }", "[StructLit new `S { [FieldInit a ? [Error]] }]"},
		{"new S { a: , b: 1 }", "[StructLit new `S { [FieldInit a : [Error]] , [FieldInit b : 1] }]"},
		{"if {}}", "[If if [Block { ~ }] [Block ? ~ }] ~]"},
		{"if a }", "[If if `a [Block ? ~ }] ~]"},
		{"if a {} else }", "[If if `a [Block { ~ }] else [Block ? ~ }]]"},
		{"match {}}", "[Match match [Block { ~ }] ? }]"},
		{"match a }", "[Match match `a ? }]"},
		{"match a { x => }", "[Match match `a { [MatchArm [Binding x] => [Error]] }]"},
		{"match a { x }", "[Match match `a { [MatchArm [Binding x] ? [Error]] }]"},
		{"match a { x 1 }", "[Match match `a { [MatchArm [Binding x] ? 1] }]"},
		{"a! b", "`a ?] [Error ! b"},
		{"a!", "`a ?] [Error !"},
		{"1 2", "1 ?] [Error 2"},
		{")", "[Error] ?] [Error )"},
		{"= 1", "[Error] ?] [Error = 1"},
	})
	checkRest(t, []sample{
		{"", "[Error]"},
		{"a(", "[Call `a ( ?]"},
		{"a(1", "[Call `a ( 1 ? ?]"},
		{"a(1,", "[Call `a ( 1 , ?]"},
		{"a.b(", "[MethodCall `a . b ( ?]"},
		{"a!(", "[MacroCall `a ! ( ?]"},
		{"(", "[Paren ( [Error] ?]"},
		{"{", "[Block { ~ ?]"},
		{"{ a", "[Block { [ExprStmt `a ?] ~ ?]"},
		{"{ {}", "[Block { [ExprStmt [Block { ~ }]] ~ ?]"},
		{"new", "[StructLit new [Path [Segment ?]] ? ?]"},
		{"new a::", "[StructLit new [Path [Segment a] :: [Segment ?]] ? ?]"},
		{"if", "[If if [Error] [Block ? ~ ?] ~]"},
		{"if a {} else", "[If if `a [Block { ~ }] else [Block ? ~ ?]]"},
		{"if a {} else if", "[If if `a [Block { ~ }] else [If if [Error] [Block ? ~ ?] ~]]"},
		{"match", "[Match match [Error] ? ?]"},
		{"match a { x", "[Match match `a { [MatchArm [Binding x] ? [Error]] ? ?]"},
		{"|", "[Lambda | [Params ?] [Error]]"},
		{"|x", "[Lambda | [Params [Param x ~] ? ?] [Error]]"},
	})
}

// A dot and a binary operator begin an expression without a first operand, also
// where an expression is optional.
func TestMissingOperands(t *testing.T) {
	checkExpressions(t, []sample{
		{".a", "[FieldAccess [Error] . a]"},
		{".a(1)", "[MethodCall [Error] . a ( 1 )]"},
		{".", "[FieldAccess [Error] . ?]"},
		{"..a", "[FieldAccess [FieldAccess [Error] . ?] . a]"},
		{"+ 1", "[Binary [Error] + 1]"},
		{"/ a * b", "[Binary [Binary [Error] / `a] * `b]"},
		{"&& a", "[Binary [Error] && `a]"},
		{"== a && b", "[Binary [Binary [Error] == `a] && `b]"},
		{"< .a", "[Binary [Error] < [FieldAccess [Error] . a]]"},
		{"+ + 1", "[Binary [Binary [Error] + [Error]] + 1]"},
		{"+", "[Binary [Error] + [Error]]"},
		{"a + / b", "[Binary `a + [Binary [Error] / `b]]"},
		{"a * + b", "[Binary [Binary `a * [Error]] + `b]"},
		{"- .a", "[Unary - [FieldAccess [Error] . a]]"},
		{"- + a", "[Binary [Unary - [Error]] + `a]"},
		{"& && a", "[Binary [Borrow & [Error]] && `a]"},
		{"(.a)", "[Paren ( [FieldAccess [Error] . a] )]"},
		{"a(.b)", "[Call `a ( [FieldAccess [Error] . b] )]"},
		{"a(1, == b, + c)", "[Call `a ( 1 , [Binary [Error] == `b] , [Binary [Error] + `c] )]"},
		{"a(&&b)", "[Call `a ( [Binary [Error] && `b] )]"},
		{"|x| .a", "[Lambda | [Params [Param x ~] |] [FieldAccess [Error] . a]]"},
		{"new S { a: / 1 }", "[StructLit new `S { [FieldInit a : [Binary [Error] / 1]] }]"},
		{"match < a {}", "[Match match [Binary [Error] < `a] { }]"},
	})
	checkBlocks(t, []sample{
		{".a", "[FieldAccess [Error] . a]"},
		{".a();", "[ExprStmt [MethodCall [Error] . a ( )] ;] ~"},
		{".a = 1;", "[Assign [FieldAccess [Error] . a] = 1 ;] ~"},
		{"+ 1;", "[ExprStmt [Binary [Error] + 1] ;] ~"},
		{"if a {} .b", "[ExprStmt [If if `a [Block { ~ }] ~]] [FieldAccess [Error] . b]"},
		{"{} == 1;", "[ExprStmt [Block { ~ }]] [ExprStmt [Binary [Error] == 1] ;] ~"},
		{"return .a;", "[Return return [FieldAccess [Error] . a] ;] ~"},
		{"return / 1;", "[Return return [Binary [Error] / 1] ;] ~"},
		{"let x = < 1;", "[Let let [Binding x] ~ = [Binary [Error] < 1] ;] ~"},
		{"while .a {}", "[While while [FieldAccess [Error] . a] [Block { ~ }]] ~"},
	})
}

func TestBrokenStatements(t *testing.T) {
	checkBlocks(t, []sample{
		{"let", "[Let let [Error] ~ ? [Error] ?] ~"},
		{"let = 1;", "[Let let [Error] ~ = 1 ;] ~"},
		{"let x;", "[Let let [Binding x] ~ ? [Error] ;] ~"},
		{"let x: = 1;", "[Let let [Binding x] : [Error] = 1 ;] ~"},
		{"let x = ;", "[Let let [Binding x] ~ = [Error] ;] ~"},
		{"let x = 1 a", "[Let let [Binding x] ~ = 1 ?] `a"},
		{"let mut = 1;", "[Let let [Binding mut ?] ~ = 1 ;] ~"},
		{"let + = 1;", "[Let let [Error] ~ ? [Binary [Error] + [Error]] ?] [Error =] [ExprStmt 1 ;] ~"},
		{"let &(x) = 1;", "[Let let [Error] ~ ? [Borrow & [Paren ( `x )]] ?] [Error =] [ExprStmt 1 ;] ~"},
		{"let mut E(x) = 1;", "[Let let [Binding mut E] ~ ? [Paren ( `x )] ?] [Error =] [ExprStmt 1 ;] ~"},
		{"let _(x) = 1;", "[Let let [Wildcard _] ~ ? [Paren ( `x )] ?] [Error =] [ExprStmt 1 ;] ~"},
		{"let _::x = 1;", "[Let let [Wildcard _] ~ ? [Error] ?] [Error ::] [Assign `x = 1 ;] ~"},
		{"let E:: = 1;", "[Let let [VariantMatch [Path [Segment E] :: [Segment ?]]] ~ = 1 ;] ~"},
		{"return", "[Return return ~ ?] ~"},
		{"return 1", "[Return return 1 ?] ~"},
		{"return return;", "[Return return ~ ?] [Return return ~ ;] ~"},
		{"return = 1;", "[Return return ~ ?] [Error =] [ExprStmt 1 ;] ~"},
		{"a = ;", "[Assign `a = [Error] ;] ~"},
		{"a = 1", "[Assign `a = 1 ?] ~"},
		{"a = b = 1;", "[Assign `a = `b ?] [Error =] [ExprStmt 1 ;] ~"},
		{"a b", "[ExprStmt `a ?] `b"},
		{"a let x = 1;", "[ExprStmt `a ?] [Let let [Binding x] ~ = 1 ;] ~"},
		{";", "[Error ;] ~"},
		{"; a ; ;", "[Error ;] [ExprStmt `a ;] [Error ;] ~"},
		{"= 1;", "[Error =] [ExprStmt 1 ;] ~"},
		{"if a {} = 1;", "[ExprStmt [If if `a [Block { ~ }] ~]] [Error =] [ExprStmt 1 ;] ~"},
		{"while a {};", "[While while `a [Block { ~ }]] [Error ;] ~"},
		{"> , : ) ] -> => ::", "[Error >] [Error ,] [Error :] [Error )] [Error ]] [Error ->] [Error =>] [Error ::] ~"},
		{"as for else mut type", "[Error as] [Error for] [Error else] [Error mut] [Error type] ~"},
		{"# a \x00", "[Error #] [ExprStmt `a ?] [Error \x00] ~"},
	})
	checkItems(t, []sample{
		{"fn f() { while", "[Func fn f [TypeParams] ( [Params )] ~ [Block { [While while [Error] [Block ? ~ ?]] ~ ?]]"},
		{"fn f() { while a }", "[Func fn f [TypeParams] ( [Params )] ~ [Block { [While while `a [Block ? ~ }]] ~ ?]]"},
		{"fn f() { while {} }", "[Func fn f [TypeParams] ( [Params )] ~ [Block { [While while [Block { ~ }] [Block ? ~ }]] ~ ?]]"},
		{"fn f() { a", "[Func fn f [TypeParams] ( [Params )] ~ [Block { [ExprStmt `a ?] ~ ?]]"},
		{"fn f() { if a {}", "[Func fn f [TypeParams] ( [Params )] ~ [Block { [ExprStmt [If if `a [Block { ~ }] ~]] ~ ?]]"},
		{"fn f() { match a {", "[Func fn f [TypeParams] ( [Params )] ~ [Block { [ExprStmt [Match match `a { ?]] ~ ?]]"},
	})
}

// Blocks end at every keyword that starts an item.
func TestBlocksEndAtItems(t *testing.T) {
	const begin, end = "[Func fn f [TypeParams] ( [Params )] ~ [Block { ", "~ ?]] "
	checkItems(t, []sample{
		{"fn f() { use a;", begin + end + "[Use use `a ;]"},
		{"fn f() { fn g() {}", begin + end + "[Func fn g [TypeParams] ( [Params )] ~ [Block { ~ }]]"},
		{"fn f() { struct S {}", begin + end + "[Struct struct S [TypeParams] { }]"},
		{"fn f() { enum E {}", begin + end + "[Enum enum E [TypeParams] { }]"},
		{"fn f() { trait T {}", begin + end + "[Trait trait T { }]"},
		{"fn f() { impl S {}", begin + end + "[Impl impl [TypeParams] ~ `S { }]"},
		{"fn f() { const c: int = 1;", begin + end + "[Const const c : `int = 1 ;]"},
		{"fn f() { macro m() = 1;", begin + end + "[Macro macro m ( [Params )] = 1 ;]"},
		{"fn f() { pub a", begin + end + "[Error pub a]"},
		{"fn f() { a; b use a; }", begin + "[ExprStmt `a ;] [ExprStmt `b ?] " + end + "[Use use `a ;] [Error }]"},
		{"fn f() { {} use a;", begin + "[ExprStmt [Block { ~ }]] " + end + "[Use use `a ;]"},
		{"fn f() { let use a;", begin + "[Let let [Error] ~ ? [Error] ?] " + end + "[Use use `a ;]"},
		{"fn f() { { use a;", begin + "[ExprStmt [Block { ~ ?]] " + end + "[Use use `a ;]"},
		{"fn f() { type a", begin + "[Error type] [ExprStmt `a ?] ~ ?]]"},
	})
}

func TestErrorsInLists(t *testing.T) {
	checkWithin(t, "fn f(", " [Func fn f [TypeParams] ( [Params ", ") {}", " )] ~ [Block { ~ }]]", []sample{
		{"1", "[Error 1]"},
		{",", "[Error ,]"},
		{",,", "[Error ,] ,"},
		{"a,,b", "[Param a ~] , [Error ,] ? [Param b ~]"},
		{"a b", "[Param a ~] ? [Param b ~]"},
		{"a 1 b", "[Param a ~] ? [Error 1] ? [Param b ~]"},
		{"1, a", "[Error 1] , [Param a ~]"},
		{"1 2", "[Error 1] ? [Error 2]"},
		{": int", "[Error :] ? [Param int ~]"},
		{"mut a", "[Error mut] ? [Param a ~]"},
		{"fn", "[Error fn]"},
		{"a: int = 1", "[Param a : `int] ? [Error =] ? [Error 1]"},
		{"{;}", "[Error {] ? [Error ;] ? [Error }]"},
		{"#a", "[Error #] ? [Param a ~]"},
	})
	checkWithin(t, "struct S<", " [Struct struct S [TypeParams < ", "> {}", " >] { }]", []sample{
		{"1, A", "[Error 1] , [TypeParam A]"},
		{": T", "[Error :] ? [TypeParam T]"},
		{"&A", "[Error &] ? [TypeParam A]"},
		{"fn", "[Error fn]"},
	})
}

// The elements of each list start with certain tokens only.
func TestElementStarts(t *testing.T) {
	checkWithin(t, "struct S {", " [Struct struct S [TypeParams] { ", "}", " }]", []sample{
		{"1, a: int", "[Error 1] , [Field a : `int]"},
		{"a: int; b: int", "[Field a : `int] ? [Error ;] ? [Field b : `int]"},
		{": int", "[Error :] ? [Field int ? [Error]]"},
		{"fn", "[Error fn]"},
	})
	checkWithin(t, "enum E {", " [Enum enum E [TypeParams] { ", "}", " }]", []sample{
		{"1, A", "[Error 1] , [Variant A]"},
		{"(int)", "[Error (] ? [Variant int] ? [Error )]"},
		{"A(1, &int, -> fn())", "[Variant A ( [Error 1] , [RefType & `int] , [Error ->] ? [FuncType fn ( ) ~] )]"},
		{"fn", "[Error fn]"},
	})
	checkTypes(t, []sample{
		{"fn(1, int)", "[FuncType fn ( [Error 1] , `int ) ~]"},
		{"fn(mut int)", "[FuncType fn ( [Error mut] ? `int ) ~]"},
		{"S<.>", "[Path [Segment S < [Error .] >]]"},
		{"S<(), A>", "[Path [Segment S < [Error (] ? [Error )] , `A >]]"},
	})
	checkExpressions(t, []sample{
		{"new S {1, a: 1}", "[StructLit new `S { [Error 1] , [FieldInit a : 1] }]"},
		{"new S {: 1}", "[StructLit new `S { [Error :] ? [Error 1] }]"},
		{"new S {fn}", "[StructLit new `S { [Error fn] }]"},
		{"a(:)", "[Call `a ( [Error :] )]"},
		{"a(,)", "[Call `a ( [Error ,] )]"},
		{"a(let, while, return, mut, fn)",
			"[Call `a ( [Error let] , [Error while] , [Error return] , [Error mut] , [Error fn] )]"},
		{"a(= 1, ], ::b)", "[Call `a ( [Error =] ? 1 , [Error ]] , [Error ::] ? `b )]"},
		{"a(b c)", "[Call `a ( `b ? `c )]"},
		{"a(b; c)", "[Call `a ( `b ? [Error ;] ? `c )]"},
		{"a(1, \"s\", b, true, false, if c {}, match d {}, new S {}, {}, (1), |x| 1)", "[Call `a ( 1 , [String \"s\"] , `b , " +
			"[Bool true] , [Bool false] , [If if `c [Block { ~ }] ~] , [Match match `d { }] , [StructLit new `S { }] , " +
			"[Block { ~ }] , [Paren ( 1 )] , [Lambda | [Params [Param x ~] |] 1] )]"},
		{"a(|| 1, -b, !b, *b, &b)", "[Call `a ( [Lambda || [Params] 1] , [Unary - `b] , [Unary ! `b] , [Unary * `b] , [Borrow & `b] )]"},
		{"a.b(:)", "[MethodCall `a . b ( [Error :] )]"},
		{"m!(:)", "[MacroCall `m ! ( [Error :] )]"},
		{"|1, x| x", "[Lambda | [Params [Error 1] , [Param x ~] |] `x]"},
		{"|x || y| 1", "[Lambda | [Params [Param x ~] ? [Error ||] ? [Param y ~] |] 1]"},
		{"match a { + => 1 }", "[Match match `a { [Error +] ? [Error =>] ? [MatchArm 1 ? [Error]] }]"},
		{"match a { => 1 }", "[Match match `a { [Error =>] ? [MatchArm 1 ? [Error]] }]"},
		{"match a { \"s\" => 1 }", "[Match match `a { [Error \"s\"] ? [Error =>] ? [MatchArm 1 ? [Error]] }]"},
		{"match a { -1 => 1 }", "[Match match `a { [Error -] ? [MatchArm 1 => 1] }]"},
		{"match a { fn }", "[Match match `a { [Error fn] }]"},
		{"match a { x => 1 y => 2 }", "[Match match `a { [MatchArm [Binding x] => 1] ? [MatchArm [Binding y] => 2] }]"},
		{"match a { 1 => {} _ => 2 }", "[Match match `a { [MatchArm 1 => [Block { ~ }]] ? [MatchArm [Wildcard _] => 2] }]"},
	})
	checkPatterns(t, []sample{
		{"A(+, x)", "[VariantMatch `A ( [Error +] , [Binding x] )]"},
		{"A(-1)", "[VariantMatch `A ( [Error -] ? 1 )]"},
		{"A(x y)", "[VariantMatch `A ( [Binding x] ? [Binding y] )]"},
		{"A(\"s\", mut x, true, false, 1, _)",
			"[VariantMatch `A ( [Error \"s\"] , [Binding mut x] , [Bool true] , [Bool false] , 1 , [Wildcard _] )]"},
		{"A(fn)", "[VariantMatch `A ( [Error fn] )]"},
	})
}

// Lists end at every keyword that starts an item, other than fn, and at the
// end. There a comma and the closing token are required.
func TestListsEndAtItems(t *testing.T) {
	for _, item := range []sample{
		{"", ""},
		{"use a;", " [Use use `a ;]"},
		{"struct S {}", " [Struct struct S [TypeParams] { }]"},
		{"enum E {}", " [Enum enum E [TypeParams] { }]"},
		{"trait T {}", " [Trait trait T { }]"},
		{"impl S {}", " [Impl impl [TypeParams] ~ `S { }]"},
		{"const c: int = 1;", " [Const const c : `int = 1 ;]"},
		{"macro m() = 1;", " [Macro macro m ( [Params )] = 1 ;]"},
		{"pub use a;", " [Use pub use `a ;]"},
		{"pub a", " [Error pub a]"},
	} {
		checkWithin(t, "", "", " "+item.src, item.want, []sample{
			{"fn f(", " [Func fn f [TypeParams] ( [Params ?] ~ [Block ? ~ ?]]"},
			{"fn f(a", " [Func fn f [TypeParams] ( [Params [Param a ~] ? ?] ~ [Block ? ~ ?]]"},
			{"fn f(a,", " [Func fn f [TypeParams] ( [Params [Param a ~] , ?] ~ [Block ? ~ ?]]"},
			{"fn f(1", " [Func fn f [TypeParams] ( [Params [Error 1] ? ?] ~ [Block ? ~ ?]]"},
			{"fn f(,", " [Func fn f [TypeParams] ( [Params [Error ,] ? ?] ~ [Block ? ~ ?]]"},
			{"fn f<", " [Func fn f [TypeParams < ?] ? [Params ?] ~ [Block ? ~ ?]]"},
			{"fn f<A", " [Func fn f [TypeParams < [TypeParam A] ? ?] ? [Params ?] ~ [Block ? ~ ?]]"},
			{"struct T {", " [Struct struct T [TypeParams] { ?]"},
			{"struct T { a: int", " [Struct struct T [TypeParams] { [Field a : `int] ? ?]"},
			{"enum T { A", " [Enum enum T [TypeParams] { [Variant A] ? ?]"},
			{"enum T { A(int", " [Enum enum T [TypeParams] { [Variant A ( `int ? ?] ? ?]"},
			{"impl S<A", " [Impl impl [TypeParams] ~ [Path [Segment S < `A ? ?]] ? ?]"},
			{"const c: fn(A", " [Const const c : [FuncType fn ( `A ? ? ~] ? [Error] ?]"},
			{"const c: int = a(1", " [Const const c : `int = [Call `a ( 1 ? ?] ?]"},
			{"const c: int = a.b(1", " [Const const c : `int = [MethodCall `a . b ( 1 ? ?] ?]"},
			{"const c: int = m!(1", " [Const const c : `int = [MacroCall `m ! ( 1 ? ?] ?]"},
			{"const c: int = new S { a: 1", " [Const const c : `int = [StructLit new `S { [FieldInit a : 1] ? ?] ?]"},
			{"const c: int = match a { x => 1", " [Const const c : `int = [Match match `a { [MatchArm [Binding x] => 1] ? ?] ?]"},
			{"const c: int = match a { A(x", " [Const const c : `int = [Match match `a { " +
				"[MatchArm [VariantMatch `A ( [Binding x] ? ?] ? [Error]] ? ?] ?]"},
			{"const c: int = |x", " [Const const c : `int = [Lambda | [Params [Param x ~] ? ?] [Error]] ?]"},
		})
	}
	checkFile(t, "fn f(a fn g", " [Func fn f [TypeParams] ( [Params [Param a ~] ? [Error fn] ? [Param g ~] ? ?] ~ [Block ? ~ ?]]")
	checkFile(t, "const c: int = a(fn", " [Const const c : `int = [Call `a ( [Error fn] ? ?] ?]")
	checkFile(t, "fn fn f() {}", " [Func fn ? [TypeParams] ? [Params [Error fn] ? [Param f ~] ? [Error (] )] ~ [Block { ~ }]]")
	checkFile(t, "macro m = 1;", " [Macro macro m ? [Params [Error =] ? [Error 1] ? [Error ;] ? ?] ? [Error] ?]")
	checkFile(t, "const c: int = if a { let x = b(1 use a;", " [Const const c : `int = [If if `a [Block { "+
		"[Let let [Binding x] ~ = [Call `b ( 1 ? ?] ?] ~ ?] ~] ?] [Use use `a ;]")
}
