package ast_test

import (
	"strconv"
	"strings"
	"testing"

	"glossator/api"
	"glossator/ast"
)

// printed is a source and what Print returns for its tree.
type printed struct{ src, want string }

// checkPrinted compares what Print returns for the trees of sources, which are
// written between two texts, with what is wanted, between two texts, too.
func checkPrinted(t *testing.T, before, after string, tests []printed) {
	t.Helper()
	for _, test := range tests {
		src, want := before+test.src+after, before+test.want+after
		node := parseClean(t, src)
		got, err := ast.Print(node)
		if got != want || err != api.OK {
			t.Errorf("Print of the tree of %q returns %q, %d, want %q", src, got, err, want)
		}
		if err := ast.Validate(node); err != api.OK {
			t.Errorf("Validate of the tree of %q returns %d", src, err)
		}
		if again := parseClean(t, got); !ast.Equal(again, node) {
			t.Errorf("the tree of %q is %s, want %s", got, shape(again), shape(node))
		}
	}
}

func TestPrintItems(t *testing.T) {
	checkPrinted(t, "", "", []printed{
		{"", ""},
		{" // c\n", ""},
		{"use a;//c\nuse b::c as d;", "use a ; use b :: c as d ;"},
		{"pub use a::b::*;", "pub use a :: b :: * ;"},
		{"fn f(){1*(2+3)}", "fn f ( ) { 1 * ( 2 + 3 ) }"},
		{"pub fn f<T:A+B<int,U>,U,>(a:int,b,)->&mut T{}",
			"pub fn f < T : A + B < int , U > , U > ( a : int , b ) -> & mut T { }"},
		{"fn f<>(){}", "fn f ( ) { }"},
		{"struct S{}", "struct S { }"},
		{"pub struct S<T>{a:int,b:T,}", "pub struct S < T > { a : int , b : T }"},
		{"enum E{A,B(),C(int,T,),}", "enum E { A , B , C ( int , T ) }"},
		{"pub enum E<T>{}", "pub enum E < T > { }"},
		{"trait T{type A;type B=int;fn f(self);fn g()->int{1}}",
			"trait T { type A ; type B = int ; fn f ( self ) ; fn g ( ) -> int { 1 } }"},
		{"pub trait T{}", "pub trait T { }"},
		{"impl S{fn f()->int;}", "impl S { fn f ( ) -> int ; }"},
		{"pub impl<T>A<T>for S<T>{type A=T;fn f(){}}", "pub impl < T > A < T > for S < T > { type A = T ; fn f ( ) { } }"},
		{"impl & &mut S for fn(){}", "impl & & mut S for fn ( ) { }"},
		{"impl fn()->A for fn(A){}", "impl fn ( ) -> A for fn ( A ) { }"},
		{"const c:fn(int,&bool,)->fn(a::b<S<T>>::C)=1;",
			"const c : fn ( int , & bool ) -> fn ( a :: b < S < T > > :: C ) = 1 ;"},
		{"pub const c:int=1;", "pub const c : int = 1 ;"},
		{"macro m()=a;", "macro m ( ) = a ;"},
		{"pub macro m(a,b:int,)=a+b;", "pub macro m ( a , b : int ) = a + b ;"},
	})
}

func TestPrintStatements(t *testing.T) {
	checkPrinted(t, "fn f ( ) { ", " }", []printed{
		{"let x=1;let mut y:&int=(2+3);", "let x = 1 ; let mut y : & int = 2 + 3 ;"},
		{"x=y;a.b=(1);*p=-1;", "x = y ; a . b = 1 ; * p = - 1 ;"},
		// Targets are no operands, but these would not be targets otherwise.
		{"(if a{})=1;(match a{})=1;({})=1;", "( if a { } ) = 1 ; ( match a { } ) = 1 ; ( { } ) = 1 ;"},
		{"1=2;(a+b)=2;(|a|b)=2;({a}).b=2;", "1 = 2 ; a + b = 2 ; | a | b = 2 ; ( { a } ) . b = 2 ;"},
		{"while(a<b){f();}", "while a < b { f ( ) ; }"},
		{"while if a{b}else{c}{}", "while if a { b } else { c } { }"},
		{"return;return(1+2);", "return ; return 1 + 2 ;"},
		{"a;b", "a ; b"},
		// Every statement that is an expression ends with a semicolon.
		{"if a{}match b{}{}if a{};a", "if a { } ; match b { } ; { } ; if a { } ; a"},
		{"(if a{});(match b{});({a})", "if a { } ; match b { } ; { a }"},
		{"({a})+1;(if a{})();({}).f();", "( { a } ) + 1 ; ( if a { } ) ( ) ; ( { } ) . f ( ) ;"},
	})
}

func TestPrintExpressions(t *testing.T) {
	checkPrinted(t, "fn f ( ) { ", " }", []printed{
		{"007", "7"},
		{"2147483647", "2147483647"},
		{"true", "true"},
		{"false", "false"},
		{`"a\n\"\\` + "\t" + `//"`, `"a\n\"\\` + "\t" + `//"`},
		{"a::b", "a :: b"},
		{"f()(1,)", "f ( ) ( 1 )"},
		{"a.f().g(1,2).h.i", "a . f ( ) . g ( 1 , 2 ) . h . i"},
		{"m!(x,y+1,)", "m ! ( x , y + 1 )"},
		{"a::m!()(b)", "a :: m ! ( ) ( b )"},
		{"new a::S{x:1,y:(z),}", "new a :: S { x : 1 , y : z }"},
		{"new S{}", "new S { }"},
		{"match(x){_=>1,mut y=>2,z=>(3),07=>4,}", "match x { _ => 1 , mut y => 2 , z => 3 , 7 => 4 }"},
		{"match x{true=>5,A(b,_,)=>6,a::B=>7,C()=>8,a::D()=>9}",
			"match x { true => 5 , A ( b , _ ) => 6 , a :: B => 7 , C ( ) => 8 , a :: D => 9 }"},
		{"match x{A(mut b,B(),c::_,2,false)=>mut_}", "match x { A ( mut b , B ( ) , c :: _ , 2 , false ) => mut_ }"},
		{"match x{mut _=>1}", "match x { mut _ => 1 }"},
		{"match match x{}{}", "match match x { } { }"},
		{"if a{1}", "if a { 1 }"},
		{"if(a){}else if b{}else{3}", "if a { } else if b { } else { 3 }"},
		{"if if a{b}{c}else{d}", "if if a { b } { c } else { d }"},
		{"if||if a{}{}else{}", "if | | if a { } { } else { }"},
		// A lambda without parameters has two tokens.
		{"||1", "| | 1"},
		{"| | ||1", "| | | | 1"},
		{"|a,b:int,|(a)", "| a , b : int | a"},
		{"|a|a+(b)", "| a | a + b"},
		{"{{x;}}", "{ { x ; } }"},
	})
}

func TestPrintOperands(t *testing.T) {
	checkPrinted(t, "fn f ( ) { ", " }", []printed{
		// These operands have no parentheses.
		{"(1)+(a)", "1 + a"},
		{"(true)&&(false)", "true && false"},
		{`("a")==(a::b)`, `"a" == a :: b`},
		{"(f(1))<(a.b)", "f ( 1 ) < a . b"},
		{"(a.f())/(m!())", "a . f ( ) / m ! ( )"},
		{"-(1)", "- 1"},
		{"!(a)", "! a"},
		{"*(p.q)", "* p . q"},
		{"&(a)", "& a"},
		{"&mut(a)", "& mut a"},
		{"(1).f(1)", "1 . f ( 1 )"},
		{`("a").b`, `"a" . b`},
		{"(f)(a)", "f ( a )"},
		{"(a.f())()", "a . f ( ) ( )"},
		// All others have them.
		{"a+b+c", "( a + b ) + c"},
		{"a||b&&c", "a || ( b && c )"},
		{"(a==b)==(c<d)", "( a == b ) == ( c < d )"},
		{"- -1-(-1)", "( - ( - 1 ) ) - ( - 1 )"},
		{"!*a", "! ( * a )"},
		{"&mut&a", "& mut ( & a )"},
		{"*(&a)", "* ( & a )"},
		{"(-a).b", "( - a ) . b"},
		{"(&a).f()", "( & a ) . f ( )"},
		{"(a+b)(c)", "( a + b ) ( c )"},
		{"(|a|a)(b)", "( | a | a ) ( b )"},
		{"1+|a|a", "1 + ( | a | a )"},
		{"1+{a}", "1 + ( { a } )"},
		{"1+if a{b}else{c}", "1 + ( if a { b } else { c } )"},
		{"1+match a{}", "1 + ( match a { } )"},
		{"new S{}.a", "( new S { } ) . a"},
		{"&new S{}", "& ( new S { } )"},
		// A call of a field is no method call.
		{"(a.b)(c)", "( a . b ) ( c )"},
		{"((a.b).c)()", "( a . b . c ) ( )"},
		// Arguments, initializers, conditions and values are no operands.
		{"f((a+b),(-c))", "f ( a + b , - c )"},
		{"a.f((a+b))", "a . f ( a + b )"},
		{"m!((a+b))", "m ! ( a + b )"},
		{"new S{a:(b+c)}", "new S { a : b + c }"},
		{"if(a<b){(-c)}", "if a < b { - c }"},
		{"match(-a){b=>(-c)}", "match - a { b => - c }"},
	})
}

// child returns a node with children.
func child(kind int, children ...api.Node) api.Node {
	return api.Node{Kind: kind, Children: children}
}

func number(value int) api.Node { return api.Node{Kind: api.NodeInt, Value: value} }

// constantOf returns a file with a constant that is an expression.
func constantOf(expression api.Node) api.Node {
	name := child(api.NodePath, api.Node{Kind: api.NodeSegment, Text: "int"})
	return child(api.NodeFile, api.Node{Kind: api.NodeConst, Text: "c", Children: []api.Node{name, expression}})
}

// checkError checks that Print and Validate return an error, or none.
func checkError(t *testing.T, what string, node api.Node, want api.Errno) {
	t.Helper()
	src, err := ast.Print(node)
	if err != want || (src != "") && err != api.OK {
		t.Errorf("%s: Print returns %q, %d, want the error %d", what, src, err, want)
	}
	if err := ast.Validate(node); err != want {
		t.Errorf("%s: Validate returns %d, want %d", what, err, want)
	}
}

func TestPrintTooManyNodes(t *testing.T) {
	for count := api.MaxNodes - 10; count <= api.MaxNodes+1; count++ {
		// The file, the constant, two nodes of its type, and the match.
		arms := make([]api.Node, count-5)
		for i := range arms {
			arms[i] = child(api.NodeError)
		}
		want := api.ErrMalformed
		if count > api.MaxNodes {
			want = api.ErrTooLarge
		}
		checkError(t, "erroneous arms", constantOf(child(api.NodeMatch, arms...)), want)
	}
	// The file, the constant, two nodes of its type, the block, two nodes of its
	// value, and three nodes of each statement.
	path := child(api.NodePath, api.Node{Kind: api.NodeSegment, Text: "a"})
	block := child(api.NodeBlock)
	for range (api.MaxNodes - 8) / 3 {
		block.Children = append(block.Children, child(api.NodeExprStmt, path))
	}
	for added := range 3 {
		what := "one node less and " + strconv.Itoa(added) + " more"
		want := api.OK
		if added == 2 {
			want = api.ErrTooLarge
		}
		value := path
		for range added {
			value = child(api.NodeBorrow, value)
		}
		checkError(t, what, constantOf(child(api.NodeBlock, append(block.Children, value)...)), want)
	}
}

func TestPrintTooDeep(t *testing.T) {
	expression := number(1)
	for depth := 3; depth <= api.MaxDepth; depth++ {
		checkError(t, "blocks", constantOf(expression), api.OK)
		expression = child(api.NodeBlock, expression)
	}
	checkError(t, "blocks that are too deep", constantOf(expression), api.ErrTooLarge)
	checkError(t, "a tree without an end", endlessTree(), api.ErrTooLarge)
	checkError(t, "a high tree", sharingTree(1000), api.ErrTooLarge)
	checkError(t, "a tree with many nodes", sharingTree(29), api.ErrTooLarge)
}

func TestPrintTooLong(t *testing.T) {
	const rest = len(`const c : int = "" ;`)
	text := func(length int) api.Node {
		return api.Node{Kind: api.NodeString, Text: strings.Repeat("a", length)}
	}
	checkError(t, "the longest string", constantOf(text(api.MaxSource-rest)), api.OK)
	checkError(t, "a string that is too long", constantOf(text(api.MaxSource-rest+1)), api.ErrTooLarge)
	checkError(t, "a string that is much too long", constantOf(text(1000000)), api.ErrTooLarge)
	escapes := api.Node{Kind: api.NodeString, Text: strings.Repeat("\n", (api.MaxSource-rest)/2)}
	checkError(t, "the longest string of line feeds", constantOf(escapes), api.OK)
	escapes.Text += "\n"
	checkError(t, "a string of line feeds that is too long", constantOf(escapes), api.ErrTooLarge)
	many := constantOf(text(900))
	many.Children = append(many.Children, many.Children[0], many.Children[0])
	checkError(t, "three strings", many, api.ErrTooLarge)
	// What is too long has no other error.
	many.Children = append(many.Children, child(api.NodeError))
	checkError(t, "three strings and an error", many, api.ErrTooLarge)
}
