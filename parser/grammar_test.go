package parser_test

import (
	"regexp"
	"slices"
	"strings"
	"sync"

	"glossator/api"
)

// The functions below build regular expressions for the children of a node, as
// children writes them.

// own matches a token that cannot be missing, token one that can.
func own(text string) string   { return "'" + regexp.QuoteMeta(text) + "' " }
func token(text string) string { return alternatives(own(text), `\? `) }

func node(kinds ...string) string               { return alternatives(strings.Join(kinds, " |") + " ") }
func alternatives(expressions ...string) string { return "(?:" + strings.Join(expressions, "|") + ")" }
func optional(expression string) string         { return "(?:" + expression + ")?" }
func repeated(expression string) string         { return "(?:" + expression + ")*" }

// list matches the elements of a list, the commas and the closing token. Only
// in front of a closing token that is there, no comma is required.
func list(element, closing string) string {
	element = alternatives(element, node("Error"))
	return repeated(element+token(",")) + alternatives(optional(element)+own(closing), `\? `)
}

func expression() string {
	return node(strings.Fields(`Missing Int Bool String Call MethodCall FieldAccess StructLit Match If
		Lambda Binary Unary Borrow MacroCall Path Paren Block`)...)
}

// grammar has what the children of each kind of nodes match.
var grammar = sync.OnceValue(func() map[string]*regexp.Regexp {
	types := node("Missing", "RefType", "FuncType", "Path")
	patterns := node("Missing", "Wildcard", "Binding", "Int", "Bool", "VariantMatch")
	items := node("Use", "Func", "Struct", "Enum", "Trait", "Impl", "Const", "Macro", "Error")
	public := optional(own("pub"))
	name := token("name")
	result := alternatives(own("->")+types, node("None"))
	typed := alternatives(own(":")+types, node("None"))
	members := token("{") + repeated(node("AssocType", "Func")) + token("}")
	statements := repeated(node("Let", "While", "Return", "Assign", "ExprStmt", "Error"))
	arguments := own("(") + list(expression(), ")")
	compiled := map[string]*regexp.Regexp{}
	for kind, children := range map[string]string{
		"None":    "",
		"Missing": "",
		"Error":   repeated(`'[^ ]*' `),
		"File":    repeated(items),
		"Use": public + own("use") + node("Path") +
			alternatives(own("::")+own("*"), optional(own("as")+name)) + token(";"),
		"Func": public + own("fn") + name + node("TypeParams") + token("(") + node("Params") + result +
			alternatives(node("Block"), own(";")+node("None")),
		"Struct":     public + own("struct") + name + node("TypeParams") + token("{") + list(node("Field"), "}"),
		"Enum":       public + own("enum") + name + node("TypeParams") + token("{") + list(node("Variant"), "}"),
		"Trait":      public + own("trait") + name + members,
		"Impl":       public + own("impl") + node("TypeParams") + alternatives(types+own("for"), node("None")) + types + members,
		"Const":      public + own("const") + name + token(":") + types + token("=") + expression() + token(";"),
		"Macro":      public + own("macro") + name + token("(") + node("Params") + token("=") + expression() + token(";"),
		"TypeParams": optional(own("<") + list(node("TypeParam"), ">")),
		"TypeParam":  own("name") + optional(own(":")+node("Path")+repeated(own("+")+node("Path"))),
		"Params":     optional(alternatives(list(node("Param"), ")"), list(node("Param"), "|"))),
		"Param":      own("name") + typed,
		"Field":      own("name") + token(":") + types,
		"Variant":    own("name") + optional(own("(")+list(types, ")")),
		"AssocType":  own("type") + name + alternatives(own("=")+types, node("None")) + token(";"),
		"Path":       node("Segment") + repeated(own("::")+node("Segment")),
		"Segment":    name + optional(own("<")+list(types, ">")),
		"RefType":    own("&") + optional(own("mut")) + types,
		"FuncType":   own("fn") + token("(") + list(types, ")") + result,
		"Block": token("{") + statements +
			alternatives(expression()+own("}"), node("None")+token("}")),
		"Let":    own("let") + patterns + typed + token("=") + expression() + token(";"),
		"Assign": expression() + own("=") + expression() + token(";"),
		"While":  own("while") + expression() + node("Block"),
		"Return": own("return") + alternatives(expression(), node("None")) + token(";"),
		"ExprStmt": alternatives(node("If", "Match", "Block")+optional(own(";")),
			expression()+token(";")),
		"Int":         own("0"),
		"Bool":        alternatives(own("true"), own("false")),
		"String":      own(`""`),
		"Call":        expression() + arguments,
		"MethodCall":  expression() + own(".") + name + arguments,
		"FieldAccess": expression() + own(".") + name,
		"StructLit":   own("new") + node("Path") + token("{") + list(node("FieldInit"), "}"),
		"FieldInit":   own("name") + token(":") + expression(),
		"Match":       own("match") + expression() + token("{") + list(node("MatchArm"), "}"),
		"MatchArm":    patterns + token("=>") + expression(),
		"If": own("if") + expression() + node("Block") +
			alternatives(own("else")+node("Block", "If"), node("None")),
		"Lambda": alternatives(own("|"), own("||")) + node("Params") + expression(),
		"Binary": expression() + alternatives(own("||"), own("&&"), own("=="), own("<"), own("+"),
			own("-"), own("*"), own("/")) + expression(),
		"Unary":        alternatives(own("-"), own("!"), own("*")) + expression(),
		"Borrow":       own("&") + optional(own("mut")) + expression(),
		"MacroCall":    node("Path") + own("!") + arguments,
		"Wildcard":     own("name"),
		"Binding":      alternatives(own("name"), own("mut")+name),
		"VariantMatch": node("Path") + optional(own("(")+list(patterns, ")")),
		"Paren":        own("(") + expression() + token(")"),
	} {
		compiled[kind] = regexp.MustCompile("^" + children + "$")
	}
	return compiled
})

// kindOf returns the name of the kind of an inner node. An error node without
// source is Missing.
func kindOf(tree api.SyntaxTree) string {
	if tree.Kind == api.NodeError && len(tree.Children) == 0 {
		return "Missing"
	}
	return kindNames[tree.Kind]
}

// children writes the children of a node that are not white space or comments,
// each one with a space behind it.
func children(tree api.SyntaxTree) string {
	var text strings.Builder
	for _, child := range tree.Children {
		switch {
		case isTrivia(child):
			continue
		case isMissing(child):
			text.WriteString("?")
		case child.Kind == api.TokenIdent:
			text.WriteString("'name'")
		case child.Kind == api.TokenInt:
			text.WriteString("'0'")
		case child.Kind == api.TokenString:
			text.WriteString(`'""'`)
		case child.Kind == api.TokenUnexpected:
			text.WriteString("'#'")
		case child.Kind >= api.TokenEOF:
			text.WriteString("'" + child.Text + "'")
		default:
			text.WriteString(kindOf(child))
		}
		text.WriteString(" ")
	}
	return text.String()
}

// problemOf returns what is wrong with the tree of a source, or "".
func problemOf(tree api.SyntaxTree) string {
	if tree.Kind >= api.TokenEOF {
		if len(tree.Children) > 0 {
			return "a token has children"
		}
		return ""
	}
	if got := children(tree); tree.Text != "" || !grammar()[kindOf(tree)].MatchString(got) {
		return "a node " + kindOf(tree) + " has the children " + got
	}
	for _, problem := range []string{triviaProblem(tree), operandProblem(tree), errorProblem(tree)} {
		if problem != "" {
			return problem
		}
	}
	for _, child := range tree.Children {
		if problem := problemOf(child); problem != "" {
			return problem
		}
	}
	return ""
}

// triviaProblem checks that white space and comments are in front of the token
// that follows them, or at the end of the root.
func triviaProblem(tree api.SyntaxTree) string {
	trivia := false
	for _, child := range tree.Children {
		if trivia && (child.Kind < api.TokenEOF || isMissing(child)) {
			return "white space in front of another node or a missing token"
		}
		trivia = isTrivia(child)
	}
	if trivia && tree.Kind != api.NodeFile {
		return "white space at the end of a node"
	}
	return ""
}

// strength returns how strongly the parts of an expression are held together:
// 1 to 5 for binary operators, 6 for unary ones, and 7 for all others.
func strength(tree api.SyntaxTree) int {
	switch tree.Kind {
	case api.NodeUnary, api.NodeBorrow:
		return 6
	case api.NodeBinary:
		operator := strings.Trim(strings.SplitN(children(tree), " ", 3)[1], "'")
		return map[string]int{"||": 1, "&&": 2, "==": 3, "<": 3, "+": 4, "-": 4, "*": 5, "/": 5}[operator]
	}
	return 7
}

// operandProblem checks the operands of operators.
func operandProblem(tree api.SyntaxTree) string {
	own, left, right := strength(tree), 0, 0
	switch tree.Kind {
	case api.NodeBinary:
		left, right = own, own+1
		if own == 3 {
			left = 4
		}
	case api.NodeUnary, api.NodeBorrow:
		right = 6
	case api.NodeCall, api.NodeMethodCall, api.NodeFieldAccess:
		left = 7
		if tree.Children[0].Kind == api.NodeLambda {
			return "a lambda is called"
		}
	default:
		return ""
	}
	last := len(tree.Children) - 1
	if strength(tree.Children[0]) < left || tree.Children[last].Kind < api.TokenEOF && strength(tree.Children[last]) < right {
		return "an operand of a node " + kindOf(tree) + " has a lower precedence"
	}
	return ""
}

// errorProblem checks which source the error nodes below a node have.
func errorProblem(tree api.SyntaxTree) string {
	for _, child := range tree.Children {
		if kindOf(child) != "Error" {
			continue
		}
		texts := strings.Fields(children(child))
		switch {
		case tree.Kind != api.NodeFile && len(texts) > 1:
			return "an error node has more than one token"
		case tree.Kind == api.NodeFile && texts[0] != "'pub'" && isItemKeyword(texts[0]):
			return "an error node starts at an item"
		case tree.Kind == api.NodeFile && slices.ContainsFunc(texts[1:], isItemKeyword):
			return "an error node contains the start of an item"
		}
	}
	return ""
}

// isItemKeyword reports whether children writes a keyword that starts an item so.
func isItemKeyword(text string) bool {
	keywords := []string{"'pub'", "'use'", "'fn'", "'struct'", "'enum'", "'trait'", "'impl'", "'const'", "'macro'"}
	return slices.Contains(keywords, text)
}
