package ast_test

import (
	"math/big"
	"math/rand"
	"regexp"
	"strings"
	"testing"

	"glossator/api"
	"glossator/lexer"
	"glossator/parser"
)

// checkRanges compares the ranges of nodes, to which shapeOf leads, with the
// wanted ones.
func checkRanges(t *testing.T, shapeOf func(api.Node) api.Node, tests []sourceShape) {
	t.Helper()
	for _, test := range tests {
		node, _ := parse(t, test.src)
		if got := ranges(shapeOf(node)); got != test.want {
			t.Errorf("the ranges of %q are\n%s, want\n%s", test.src, got, test.want)
		}
	}
}

func TestRanges(t *testing.T) {
	checkRanges(t, func(file api.Node) api.Node { return file }, []sourceShape{
		// The root covers everything, also comments at the end.
		{"", "[File 0-0]"},
		{" // a\n", "[File 0-6]"},
		{" use a ; // b", "[File 0-13 [Use 1-8 [Path 5-6 [Segment 5-6@5]]]]"},
		{"use a as b;", "[File 0-11 [Use 0-11@9 [Path 4-5 [Segment 4-5@4]]]]"},
		// A node without tokens is where it occurs, in front of white space.
		{"struct S {}", "[File 0-11 [Struct 0-11@7 [TypeParams 8-8]]]"},
		{"struct S < > {}", "[File 0-15 [Struct 0-15@7 [TypeParams 9-12]]]"},
		{"impl  S {}", "[File 0-10 [Impl 0-10 [TypeParams 4-4] [None 4-4] [Path 6-7 [Segment 6-7@6]]]]"},
		{"trait T { fn f() ; }", "[File 0-20 [Trait 0-20@6 [Func 10-18@13 [TypeParams 14-14] " +
			"[Params 15-16] [None 16-16] [None 18-18]]]]"},
		// Missing tokens do not count.
		{"use  ", "[File 0-5 [Use 0-3 [Path 3-3 [Segment 3-3]]]]"},
		{"use  a  ", "[File 0-8 [Use 0-6 [Path 5-6 [Segment 5-6@5]]]]"},
		{" fn f", "[File 0-5 [Func 1-5@4 [TypeParams 5-5] [Params 5-5] [None 5-5] [Block 5-5 [None 5-5]]]]"},
		{"macro m(a : ", "[File 0-12 [Macro 0-11@6 [Params 8-11 [Param 8-11@8 [Error 11-11]]] [Error 11-11]]]"},
		{"macro m() = = ;", "[File 0-15 [Macro 0-11@6 [Params 8-9] [Error 11-11]] [Error 12-15]]"},
		// An error node covers its tokens and what is between them.
		{" a // b\n c // d\n use e;", "[File 0-23 [Error 1-10] [Use 17-23 [Path 21-22 [Segment 21-22@21]]]]"},
	})
}

func TestRangesOfExpressions(t *testing.T) {
	checkRanges(t, func(file api.Node) api.Node { return at(file, 0, 1) }, []sourceShape{
		// Parentheses belong to the operand, but not to its children.
		{"macro m() = ( a ) ;", "[Path 12-17 [Segment 14-15@14]]"},
		{"macro m() = ((a));", "[Path 12-17 [Segment 14-15@14]]"},
		{"macro m() = (a + b) * c;", "[Binary 12-23 [Binary 12-19 [Path 13-14 [Segment 13-14@13]] " +
			"[Path 17-18 [Segment 17-18@17]]] [Path 22-23 [Segment 22-23@22]]]"},
		{"macro m() = (a).b;", "[FieldAccess 12-17@16 [Path 12-15 [Segment 13-14@13]]]"},
		{"macro m() = (a", "[Path 12-14 [Segment 13-14@13]]"},
		{"macro m() = ((a);", "[Path 12-16 [Segment 14-15@14]]"},
		// A missing operand in parentheses covers them, too.
		{"macro m() = ( );", "[Error 12-15]"},
		{"macro m() = (;", "[Error 12-13]"},
		// A missing first operand is in front of the white space.
		{"macro m() =  + a;", "[Binary 11-16 [Error 11-11] [Path 15-16 [Segment 15-16@15]]]"},
		{"macro m() = a +  ;", "[Binary 12-15 [Path 12-13 [Segment 12-13@12]] [Error 15-15]]"},
		{"macro m() =  . a ;", "[FieldAccess 11-16@15 [Error 11-11]]"},
		{"macro m() = a . ;", "[FieldAccess 12-15 [Path 12-13 [Segment 12-13@12]]]"},
		// Nodes with tokens behind the last child.
		{"macro m() = a . b ( c , ) ;", "[MethodCall 12-25@16 [Path 12-13 [Segment 12-13@12]] [Path 20-21 [Segment 20-21@20]]]"},
		{"macro m() = {  } ;", "[Block 12-16 [None 13-13]]"},
		{"macro m() = if a { } ;", "[If 12-20 [Path 15-16 [Segment 15-16@15]] [Block 17-20 [None 18-18]] [None 20-20]]"},
		{"macro m() = if a {} else  ", "[If 12-24 [Path 15-16 [Segment 15-16@15]] [Block 17-19 [None 18-18]] [Block 24-24 [None 24-24]]]"},
		{"macro m() = || a;", "[Lambda 12-16 [Params 14-14] [Path 15-16 [Segment 15-16@15]]]"},
		{"macro m() = |  | a;", "[Lambda 12-18 [Params 15-16] [Path 17-18 [Segment 17-18@17]]]"},
		{"macro m() = | b c  ", "[Lambda 12-17 [Params 14-17 [Param 14-15@14 [None 15-15]] [Param 16-17@16 [None 17-17]]] [Error 17-17]]"},
	})
}

// modelNode returns the node of an inner node of a syntax tree at an offset, in
// the words of the chapter.
func modelNode(src string, tree api.SyntaxTree, offset int) api.Node {
	node := api.Node{Kind: tree.Kind, NameStart: -1}
	type covered struct{ start, end int }
	var parts []covered
	start, words := offset, ""
	for _, child := range tree.Children {
		length := len(parser.Source(child))
		switch {
		case child.Kind < api.TokenEOF:
			built := modelNode(src, child, offset)
			node.Children = append(node.Children, built)
			parts = append(parts, covered{built.Start, built.End})
		case length > 0 && child.Kind != api.TokenSpace && child.Kind != api.TokenComment:
			parts = append(parts, covered{offset, offset + length})
			words += child.Text + " "
			if child.Kind == api.TokenIdent && node.NameStart < 0 && strings.Contains(namedKinds, " "+kindName(tree)+" ") {
				node.Text, node.NameStart = child.Text, offset
			}
		}
		offset += length
	}
	if node.Start, node.End = start, start; len(parts) > 0 {
		node.Start, node.End = parts[0].start, parts[len(parts)-1].end
	}
	switch tree.Kind {
	case api.NodeFile:
		node.Start, node.End = 0, len(src)
	case api.NodeParen:
		operand := node.Children[0]
		operand.Start, operand.End = node.Start, node.End
		if operand.Kind == api.NodeError {
			operand.Text = src[node.Start:node.End]
		}
		return operand
	case api.NodeError:
		node.Text, node.Children = src[node.Start:node.End], nil
	case api.NodeBinary, api.NodeUnary:
		node.Text = strings.TrimSpace(words)
	case api.NodeInt, api.NodeString:
		node.Value, node.Text = modelLiteral(words)
	case api.NodeBool:
		node.Value = strings.Count(words, "true ")
	case api.NodeUse:
		node.Value = strings.Count(words, "pub ") + 2*strings.Count(words, "* ")
	default:
		node.Value = strings.Count(" "+words, " pub ") + strings.Count(" "+words, " mut ")
	}
	return node
}

const namedKinds = " Use Func Struct Enum Trait Const Macro TypeParam Param Field Variant AssocType Segment " +
	"MethodCall FieldAccess FieldInit Binding "

func kindName(tree api.SyntaxTree) string {
	if tree.Kind == api.NodeParen {
		return "Paren"
	}
	return kindNames[tree.Kind]
}

var escape = regexp.MustCompile(`\\.`)

// modelLiteral returns the value and the text of a literal.
func modelLiteral(words string) (value int, text string) {
	literal := strings.TrimSpace(words)
	if literal[0] == '"' {
		return 0, escape.ReplaceAllStringFunc(literal[1:len(literal)-1], func(found string) string {
			return strings.Replace(found[1:], "n", "\n", 1)
		})
	}
	number, _ := new(big.Int).SetString(literal, 10)
	if number.Cmp(big.NewInt(api.MaxInt)) > 0 {
		return api.MaxInt, ""
	}
	return int(number.Int64()), ""
}

// soupWords are the tokens of random sources.
var soupWords = append(strings.Fields(`a b _ 7 99999999999 "s\n\q" # " :: => -> == && || ( ) { } [ ] < > , ; : . = + - * / ! &
	| ( ) { } ( ) { } , ; , ; = | a b // abcdefghijklmnopqrstuvwxyzabcdefg`), lexer.Keywords()...)

// soup returns a random source of n tokens.
func soup(random *rand.Rand, n int) string {
	var text strings.Builder
	for range n {
		text.WriteString(soupWords[random.Intn(len(soupWords))])
		text.WriteString([]string{"", " ", " ", "\n", " //c\n"}[random.Intn(5)])
	}
	return text.String()
}

// soups calls check for random sources, behind different starts.
func soups(t *testing.T, check func(src string)) {
	t.Helper()
	random := rand.New(rand.NewSource(10))
	for _, start := range []string{"", "fn f() {", "fn f() { match a {", "const c: a = ", "struct S<", "enum E {", "impl "} {
		for range 1500 {
			check(start + soup(random, random.Intn(15)))
		}
	}
}

func TestParseAgainstModel(t *testing.T) {
	soups(t, func(src string) {
		tree, err := parser.Parse(src)
		if err != api.OK {
			t.Fatal(err)
		}
		got, _ := parse(t, src)
		if want := modelNode(src, tree, 0); !same(got, want) {
			t.Fatalf("the tree of %q is\n%s\n%s, want\n%s\n%s", src, shape(got), ranges(got), shape(want), ranges(want))
		}
	})
}

// TestNesting checks that children are in their parents, in their order, and
// that names and the texts of errors stand where the node says.
func TestNesting(t *testing.T) {
	soups(t, func(src string) {
		file, _ := parse(t, src)
		walk(file, func(node api.Node) {
			end := node.Start
			for _, child := range node.Children {
				if child.Start < end || child.End < child.Start || child.End > node.End {
					t.Fatalf("%q: the children of %s", src, ranges(node))
				}
				end = child.End
			}
			switch {
			case node.NameStart >= 0:
				if !strings.HasPrefix(src[node.NameStart:node.End], node.Text) || node.NameStart < node.Start {
					t.Fatalf("%q: the name of %s", src, ranges(node))
				}
			case node.Kind == api.NodeError && (node.Text != src[node.Start:node.End] || len(node.Children) > 0):
				t.Fatalf("%q: the text of %s", src, ranges(node))
			}
		})
	})
}
