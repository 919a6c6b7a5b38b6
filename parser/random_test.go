package parser_test

import (
	"math/rand"
	"slices"
	"strings"
	"testing"

	"glossator/api"
	"glossator/lexer"
)

// generator makes random trees of sources without errors. Its methods follow
// the grammar of the chapter.
type generator struct {
	*rand.Rand
	budget int // how many nodes with optional parts the tree may still have
}

func (g *generator) more() bool {
	g.budget--
	return g.budget > 0 && g.Intn(3) > 0
}

func tokenOf(kind int, text string) api.SyntaxTree { return api.SyntaxTree{Kind: kind, Text: text} }

// build returns a node with children, which are strings for keywords and
// punctuation, trees and lists of trees.
func build(kind int, parts ...any) api.SyntaxTree {
	tree := api.SyntaxTree{Kind: kind}
	for _, part := range parts {
		switch part := part.(type) {
		case string:
			word := api.TokenPunct
			if slices.Contains(lexer.Keywords(), part) {
				word = api.TokenKeyword
			}
			tree.Children = append(tree.Children, tokenOf(word, part))
		case api.SyntaxTree:
			tree.Children = append(tree.Children, part)
		case []api.SyntaxTree:
			tree.Children = append(tree.Children, part...)
		}
	}
	return tree
}

func sequence(parts ...any) []api.SyntaxTree { return build(0, parts...).Children }

func none() api.SyntaxTree { return build(api.NodeNone) }

func (g *generator) name() api.SyntaxTree {
	return tokenOf(api.TokenIdent, []string{"a", "b1", "_c", "Self", "int", "fnx"}[g.Intn(6)])
}

func (g *generator) integer() api.SyntaxTree {
	return build(api.NodeInt, tokenOf(api.TokenInt, []string{"0", "12", "007"}[g.Intn(3)]))
}

// elements returns a list with commas, and with the closing token.
func (g *generator) elements(element func() api.SyntaxTree, closing string) []api.SyntaxTree {
	var trees []api.SyntaxTree
	for g.more() {
		if len(trees) > 0 {
			trees = append(trees, sequence(",")...)
		}
		trees = append(trees, element())
	}
	if len(trees) > 0 && g.more() {
		trees = append(trees, sequence(",")...)
	}
	return append(trees, sequence(closing)...)
}

// either returns the given list, or the other one.
func (g *generator) either(first func() []api.SyntaxTree, second ...any) []api.SyntaxTree {
	if g.more() {
		return first()
	}
	return sequence(second...)
}

func (g *generator) file() api.SyntaxTree {
	var items []api.SyntaxTree
	for g.more() || len(items) == 0 {
		items = append(items, g.item())
	}
	return build(api.NodeFile, items)
}

func (g *generator) item() api.SyntaxTree {
	public := g.either(func() []api.SyntaxTree { return sequence("pub") })
	switch g.Intn(9) {
	case 0:
		return build(api.NodeUse, public, "use", g.path(g.segment), g.either(func() []api.SyntaxTree { return sequence("as", g.name()) }), ";")
	case 1:
		return build(api.NodeUse, public, "use", g.path(g.segment), "::", "*", ";")
	case 2:
		return build(api.NodeStruct, public, "struct", g.name(), g.typeParams(), "{", g.elements(func() api.SyntaxTree {
			return build(api.NodeField, g.name(), ":", g.typeTree())
		}, "}"))
	case 3:
		return build(api.NodeEnum, public, "enum", g.name(), g.typeParams(), "{", g.elements(func() api.SyntaxTree {
			return build(api.NodeVariant, g.name(), g.either(func() []api.SyntaxTree {
				return sequence("(", g.elements(g.typeTree, ")"))
			}))
		}, "}"))
	case 4:
		return build(api.NodeTrait, public, "trait", g.name(), g.members())
	case 5:
		return build(api.NodeImpl, public, "impl", g.typeParams(), g.either(func() []api.SyntaxTree {
			return sequence(g.typeTree(), "for")
		}, none()), g.typeTree(), g.members())
	case 6:
		return build(api.NodeConst, public, "const", g.name(), ":", g.typeTree(), "=", g.expression(), ";")
	case 7:
		return build(api.NodeMacro, public, "macro", g.name(), "(", g.params(")"), "=", g.expression(), ";")
	}
	return build(api.NodeFunc, public, g.signature(), g.block())
}

func (g *generator) signature() []api.SyntaxTree {
	return sequence("fn", g.name(), g.typeParams(), "(", g.params(")"), g.optionalType("->"))
}

func (g *generator) members() []api.SyntaxTree {
	members := sequence("{")
	for g.more() {
		switch g.Intn(3) {
		case 0:
			members = append(members, build(api.NodeAssocType, "type", g.name(), g.optionalType("="), ";"))
		case 1:
			members = append(members, build(api.NodeFunc, g.signature(), g.block()))
		case 2:
			members = append(members, build(api.NodeFunc, g.signature(), ";", none()))
		}
	}
	return append(members, sequence("}")...)
}

func (g *generator) optionalType(before string) []api.SyntaxTree {
	return g.either(func() []api.SyntaxTree { return sequence(before, g.typeTree()) }, none())
}

func (g *generator) typeParams() api.SyntaxTree {
	return build(api.NodeTypeParams, g.either(func() []api.SyntaxTree { return sequence("<", g.elements(g.typeParam, ">")) }))
}

func (g *generator) typeParam() api.SyntaxTree {
	return build(api.NodeTypeParam, g.name(), g.either(func() []api.SyntaxTree {
		bounds := sequence(":", g.path(g.typeSegment))
		for g.more() {
			bounds = append(bounds, sequence("+", g.path(g.typeSegment))...)
		}
		return bounds
	}))
}

func (g *generator) params(closing string) api.SyntaxTree {
	return build(api.NodeParams, g.elements(func() api.SyntaxTree {
		return build(api.NodeParam, g.name(), g.optionalType(":"))
	}, closing))
}

func (g *generator) typeTree() api.SyntaxTree {
	switch {
	case !g.more():
		return g.path(g.segment)
	case g.more():
		return g.path(g.typeSegment)
	case g.more():
		return build(api.NodeRefType, "&", g.mutable(), g.typeTree())
	}
	return build(api.NodeFuncType, "fn", "(", g.elements(g.typeTree, ")"), g.optionalType("->"))
}

func (g *generator) mutable() []api.SyntaxTree {
	return g.either(func() []api.SyntaxTree { return sequence("mut") })
}

func (g *generator) path(segment func() api.SyntaxTree) api.SyntaxTree {
	segments := sequence(segment())
	for g.more() && g.more() {
		segments = append(segments, sequence("::", segment())...)
	}
	return build(api.NodePath, segments)
}

func (g *generator) segment() api.SyntaxTree { return build(api.NodeSegment, g.name()) }

func (g *generator) typeSegment() api.SyntaxTree {
	return build(api.NodeSegment, g.name(), g.either(func() []api.SyntaxTree {
		return sequence("<", g.elements(g.typeTree, ">"))
	}))
}

func (g *generator) block() api.SyntaxTree {
	statements := sequence("{")
	for g.more() {
		statements = append(statements, g.statement())
	}
	value := g.either(func() []api.SyntaxTree { return sequence(g.value()) }, none())
	last := &statements[len(statements)-1]
	if value[0].Kind == api.NodeNone && last.Kind == api.NodeExprStmt && len(last.Children) == 1 {
		// Without a semicolon it would be the value.
		*last = build(api.NodeExprStmt, last.Children[0], ";")
	}
	return build(api.NodeBlock, statements, value, "}")
}

// value returns the value of a block.
func (g *generator) value() api.SyntaxTree {
	if g.Intn(4) == 0 {
		return g.blockLike()
	}
	return g.statementExpression()
}

func (g *generator) blockLike() api.SyntaxTree {
	switch g.Intn(3) {
	case 0:
		return g.block()
	case 1:
		return g.ifTree()
	}
	return g.match()
}

// statementExpression returns an expression that does not start with if, match
// or {.
func (g *generator) statementExpression() api.SyntaxTree {
	tree := g.expression()
	if slices.Contains([]string{"if", "match", "{"}, leaves(tree)[0].Text) {
		return build(api.NodeParen, "(", tree, ")")
	}
	return tree
}

func (g *generator) statement() api.SyntaxTree {
	switch g.Intn(6) {
	case 0:
		return build(api.NodeLet, "let", g.pattern(), g.optionalType(":"), "=", g.expression(), ";")
	case 1:
		return build(api.NodeWhile, "while", g.expression(), g.block())
	case 2:
		return build(api.NodeReturn, "return", g.either(func() []api.SyntaxTree { return sequence(g.expression()) }, none()), ";")
	case 3:
		return build(api.NodeAssign, g.statementExpression(), "=", g.expression(), ";")
	case 4:
		return build(api.NodeExprStmt, g.blockLike(), g.either(func() []api.SyntaxTree { return sequence(";") }))
	}
	return build(api.NodeExprStmt, g.statementExpression(), ";")
}

func (g *generator) expression() api.SyntaxTree {
	if g.Intn(8) > 0 {
		return g.operation(1)
	}
	if !g.more() {
		return build(api.NodeLambda, "||", build(api.NodeParams), g.expression())
	}
	return build(api.NodeLambda, "|", g.params("|"), g.expression())
}

// operation returns an expression of operators of at least a precedence.
func (g *generator) operation(level int) api.SyntaxTree {
	operators := [][]string{1: {"||"}, 2: {"&&"}, 3: {"==", "<"}, 4: {"+", "-"}, 5: {"*", "/"}}
	if level == len(operators) {
		return g.unary()
	}
	tree := g.operation(level + 1)
	for g.Intn(6) == 0 {
		operator := operators[level][g.Intn(len(operators[level]))]
		tree = build(api.NodeBinary, tree, operator, g.operation(level+1))
		if level == 3 {
			break
		}
	}
	return tree
}

func (g *generator) unary() api.SyntaxTree {
	switch g.Intn(8) {
	case 0:
		return build(api.NodeUnary, []string{"-", "!", "*"}[g.Intn(3)], g.unary())
	case 1:
		return build(api.NodeBorrow, "&", g.mutable(), g.unary())
	}
	return g.postfix()
}

func (g *generator) postfix() api.SyntaxTree {
	tree := g.primary()
	for g.Intn(3) == 0 {
		switch g.Intn(3) {
		case 0:
			tree = build(api.NodeMethodCall, tree, ".", g.name(), "(", g.elements(g.expression, ")"))
		case 1:
			tree = build(api.NodeFieldAccess, tree, ".", g.name())
		case 2:
			// After a field name, it would be a method call.
			if tree.Kind != api.NodeFieldAccess {
				tree = build(api.NodeCall, tree, "(", g.elements(g.expression, ")"))
			}
		}
	}
	return tree
}

func (g *generator) primary() api.SyntaxTree {
	if !g.more() {
		return g.integer()
	}
	switch g.Intn(8) {
	case 0:
		return build(api.NodeString, tokenOf(api.TokenString, `"a \" // b"`))
	case 1:
		return build(api.NodeBool, []string{"true", "false"}[g.Intn(2)])
	case 2:
		return build(api.NodeMacroCall, g.path(g.segment), "!", "(", g.elements(g.expression, ")"))
	case 3:
		return build(api.NodeParen, "(", g.expression(), ")")
	case 4:
		return build(api.NodeStructLit, "new", g.path(g.segment), "{", g.elements(func() api.SyntaxTree {
			return build(api.NodeFieldInit, g.name(), ":", g.expression())
		}, "}"))
	case 5:
		return g.blockLike()
	}
	return g.path(g.segment)
}

func (g *generator) ifTree() api.SyntaxTree {
	return build(api.NodeIf, "if", g.expression(), g.block(), g.either(func() []api.SyntaxTree {
		if g.more() {
			return sequence("else", g.ifTree())
		}
		return sequence("else", g.block())
	}, none()))
}

func (g *generator) match() api.SyntaxTree {
	return build(api.NodeMatch, "match", g.expression(), "{", g.elements(func() api.SyntaxTree {
		return build(api.NodeMatchArm, g.pattern(), "=>", g.expression())
	}, "}"))
}

func (g *generator) pattern() api.SyntaxTree {
	switch g.Intn(5) {
	case 0:
		return build(api.NodeWildcard, tokenOf(api.TokenIdent, "_"))
	case 1:
		return g.integer()
	case 2:
		return build(api.NodeBool, []string{"true", "false"}[g.Intn(2)])
	case 3:
		path := g.path(g.segment)
		arguments := g.either(func() []api.SyntaxTree { return sequence("(", g.elements(g.pattern, ")")) })
		if len(path.Children) == 1 && len(arguments) == 0 {
			return build(api.NodeBinding, path.Children[0].Children)
		}
		return build(api.NodeVariantMatch, path, arguments)
	}
	return build(api.NodeBinding, g.mutable(), g.name())
}

// spaced returns a tree with white space and comments in front of its tokens.
// There is always some where two tokens would otherwise become others.
func (g *generator) spaced(tree api.SyntaxTree, previous *string) api.SyntaxTree {
	result := api.SyntaxTree{Kind: tree.Kind}
	for _, child := range tree.Children {
		if child.Kind < api.TokenEOF {
			result.Children = append(result.Children, g.spaced(child, previous))
			continue
		}
		result.Children = append(result.Children, g.trivia(*previous, child.Text)...)
		result.Children = append(result.Children, child)
		*previous = child.Text
	}
	return result
}

func (g *generator) trivia(previous, next string) []api.SyntaxTree {
	tokens, _ := lexer.Tokenize(previous + next)
	touching := len(tokens) == 2 && tokens[0].Text == previous || previous == ""
	switch g.Intn(6) {
	case 0:
		return sequence(tokenOf(api.TokenSpace, "\n\t"))
	case 1:
		return sequence(tokenOf(api.TokenSpace, " "), tokenOf(api.TokenComment, "// fn {"), tokenOf(api.TokenSpace, "\n"))
	case 2, 3:
		if touching {
			return nil
		}
	}
	return sequence(tokenOf(api.TokenSpace, " "))
}

// Trees that follow the grammar are what Parse makes of their sources.
func TestRandomSources(t *testing.T) {
	tested := map[int]int{}
	for seed := range 4000 {
		g := &generator{rand.New(rand.NewSource(int64(seed))), 10 + seed%200}
		previous := ""
		tree := g.spaced(g.file(), &previous)
		if g.Intn(2) == 0 {
			tree.Children = append(tree.Children, g.trivia(previous, "")...)
		}
		var src strings.Builder
		for _, token := range leaves(tree) {
			src.WriteString(token.Text)
		}
		if src.Len() > api.MaxSource {
			continue
		}
		if got, want := lossless(parse(t, src.String())), lossless(tree); got != want {
			t.Fatalf("Parse(%q):\n got %s\nwant %s", src.String(), got, want)
		}
		countKinds(tree, tested)
	}
	for kind, name := range kindNames {
		if kind != api.NodeError && tested[kind] < 50 {
			t.Errorf("only %d nodes %s tested", tested[kind], name)
		}
	}
}

func countKinds(tree api.SyntaxTree, counts map[int]int) {
	counts[tree.Kind]++
	for _, child := range tree.Children {
		countKinds(child, counts)
	}
}

// soup has the tokens of the grammar and some that it does not have.
func soup() []string {
	return append(lexer.Keywords(), strings.Fields(`a b _ 1 "s" :: => -> == && || ( ) { } [ < > , ; : . = + - * / ! & | # "`)...)
}

// Every source has a tree of the right shape.
func TestTokenSoup(t *testing.T) {
	contexts := []string{"", "pub", "use a", "use a::", "fn f", "fn f(", "fn f()", "fn f(a", "fn f<", "fn f<a", "fn f<a:", "fn f() ->",
		"fn f() {", "fn f() { a", "fn f() { {}", "fn f() { let", "fn f() { let a", "fn f() { while a", "fn f() { return",
		"struct S {", "struct S { a", "struct S { a: b", "enum E {", "enum E { a", "enum E { a(", "trait T {", "trait T { type", "trait T { fn f()",
		"impl", "impl a", "impl a for", "const c", "const c:", "const c: fn", "const c: fn(", "const c: a", "const c: a<", "const c: int =",
		"macro m", "macro m() =", "macro m() = a", "macro m() = a +", "macro m() = a == b", "macro m() = -", "macro m() = a.", "macro m() = a.b",
		"macro m() = a(", "macro m() = a(b", "macro m() = a!", "macro m() = a!(", "macro m() = (", "macro m() = |", "macro m() = |a",
		"macro m() = if", "macro m() = if a", "macro m() = if a {}", "macro m() = if a {} else", "macro m() = match", "macro m() = match a {",
		"macro m() = match a { b", "macro m() = match a { b(", "macro m() = match a { b =>", "macro m() = match a { b => 1",
		"macro m() = new", "macro m() = new a", "macro m() = new a {", "macro m() = new a { b", "macro m() = new a { b:"}
	for _, context := range contexts {
		for _, first := range soup() {
			parse(t, context+" "+first)
			for _, second := range soup() {
				parse(t, context+" "+first+" "+second)
			}
		}
	}
	random := rand.New(rand.NewSource(1))
	for range 8000 {
		src := contexts[random.Intn(len(contexts))]
		for range random.Intn(40) {
			src += []string{" ", "", "\n", " //\n"}[random.Intn(4)] + soup()[random.Intn(len(soup()))]
		}
		parse(t, src)
	}
}
