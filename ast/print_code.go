package ast

import (
	"strconv"

	"glossator/api"
)

// printStatement writes a block or a statement.
func (p *printer) printStatement(node api.Node) {
	switch node.Kind {
	case api.NodeBlock:
		p.tokens("{")
		p.sequence(node.Children)
		p.tokens("}")
	case api.NodeLet:
		p.tokens("let")
		p.part(node, 0)
		p.optional(":", node, 1)
		p.tokens("=")
		p.part(node, 2)
		p.tokens(";")
	case api.NodeAssign:
		p.grouped(node, 0, !isStatement(kindOf(node, 0)))
		p.tokens("=")
		p.part(node, 1)
		p.tokens(";")
	case api.NodeWhile:
		p.tokens("while")
		p.sequence(node.Children)
	case api.NodeReturn:
		p.tokens("return")
		p.part(node, 0)
		p.tokens(";")
	case api.NodeExprStmt:
		p.part(node, 0)
		p.tokens(";")
	}
}

// isStatement reports whether a kind of expressions at the start of a statement
// is all of it.
func isStatement(kind int) bool {
	return kind == api.NodeIf || kind == api.NodeMatch || kind == api.NodeBlock
}

// printExpression writes an expression other than a path or a block.
func (p *printer) printExpression(node api.Node) {
	switch node.Kind {
	case api.NodeInt:
		p.tokens(strconv.Itoa(node.Value))
	case api.NodeBool:
		p.tokens(strconv.FormatBool(node.Value != 0))
	case api.NodeString:
		p.tokens(QuoteString(node.Text))
	case api.NodeCall, api.NodeMethodCall, api.NodeFieldAccess, api.NodeMacroCall:
		p.printPostfix(node)
	case api.NodeStructLit:
		p.tokens("new")
		p.part(node, 0)
		p.bracketed("{", from(node, 1), "}")
	case api.NodeFieldInit:
		p.tokens(node.Text, ":")
		p.part(node, 0)
	case api.NodeMatch:
		p.tokens("match")
		p.part(node, 0)
		p.bracketed("{", from(node, 1), "}")
	case api.NodeMatchArm:
		p.part(node, 0)
		p.tokens("=>")
		p.part(node, 1)
	case api.NodeIf:
		p.tokens("if")
		p.part(node, 0)
		p.part(node, 1)
		p.optional("else", node, 2)
	case api.NodeLambda:
		p.tokens("|")
		p.part(node, 0)
		p.tokens("|")
		p.part(node, 1)
	case api.NodeBinary:
		p.operand(node, 0)
		p.tokens(node.Text)
		p.operand(node, 1)
	case api.NodeUnary:
		p.tokens(node.Text)
		p.operand(node, 0)
	case api.NodeBorrow:
		p.tokens("&")
		p.mutable(node)
		p.operand(node, 0)
	}
}

// printPostfix writes a call or a field access.
func (p *printer) printPostfix(node api.Node) {
	switch node.Kind {
	case api.NodeCall:
		// Without parentheses, the call of a field would be a method call.
		kind := kindOf(node, 0)
		p.grouped(node, 0, isBareOperand(kind) && kind != api.NodeFieldAccess)
	case api.NodeMethodCall, api.NodeFieldAccess:
		p.operand(node, 0)
		p.tokens(".", node.Text)
	case api.NodeMacroCall:
		p.part(node, 0)
		p.tokens("!")
	}
	if node.Kind != api.NodeFieldAccess {
		p.bracketed("(", from(node, 1), ")")
	}
}

// operand writes the operand of a node that is its child with an index.
func (p *printer) operand(node api.Node, index int) {
	p.grouped(node, index, isBareOperand(kindOf(node, index)))
}

// isBareOperand reports whether operands of a kind have no parentheses.
func isBareOperand(kind int) bool {
	switch kind {
	case api.NodeInt, api.NodeBool, api.NodeString, api.NodePath, api.NodeCall, api.NodeMethodCall,
		api.NodeFieldAccess, api.NodeMacroCall:
		return true
	}
	return false
}

// printPattern writes a pattern other than a literal.
func (p *printer) printPattern(node api.Node) {
	switch node.Kind {
	case api.NodeWildcard:
		p.tokens("_")
	case api.NodeBinding:
		p.mutable(node)
		p.tokens(node.Text)
	case api.NodeVariantMatch:
		p.part(node, 0)
		if len(node.Children) > 1 {
			p.bracketed("(", from(node, 1), ")")
		} else if len(node.Children) == 1 && len(node.Children[0].Children) == 1 {
			// Without parentheses, the path would be a binding.
			p.tokens("(", ")")
		}
	}
}
