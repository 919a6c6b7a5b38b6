package parser

import "glossator/api"

// Precedences of the binary operators.
const (
	lowest     = 1
	comparison = 3
	highest    = 5
)

// precedence returns the precedence of a binary operator, or 0 if a token is
// none.
func precedence(token api.Token) int {
	switch token.Text {
	case "||":
		return lowest
	case "&&":
		return 2
	case "==", "<":
		return comparison
	case "+", "-":
		return 4
	case "*", "/":
		return highest
	}
	return 0
}

// atExpression reports whether an expression can start at the next token. A dot
// and a binary operator can start one, whose first operand is missing then.
func (p *parser) atExpression() bool {
	token := p.peek(0)
	switch token.Kind {
	case api.TokenIdent, api.TokenInt, api.TokenString:
		return true
	}
	switch token.Text {
	case "true", "false", "if", "match", "new", "(", "{", "|", "!", "&", ".":
		return true
	}
	return precedence(token) > 0
}

func (p *parser) parseExpression() { p.parseOperation(lowest) }

// parseOperation parses an expression in which operators of a lower precedence
// than level are only in brackets.
func (p *parser) parseOperation(level int) {
	if level > highest {
		p.parseUnary()
		return
	}
	p.parseOperation(level + 1)
	for precedence(p.peek(0)) == level {
		p.wrap(api.NodeBinary, func() {
			p.take()
			p.parseOperation(level + 1)
		})
		if level == comparison {
			return
		}
	}
}

func (p *parser) parseUnary() {
	switch {
	case p.at("-"), p.at("!"), p.at("*"):
		p.node(api.NodeUnary, func() {
			p.take()
			p.parseUnary()
		})
	case p.at("&"):
		p.node(api.NodeBorrow, func() {
			p.take()
			p.accept("mut")
			p.parseUnary()
		})
	default:
		p.parsePostfix()
	}
}

func (p *parser) parsePostfix() {
	p.parsePrimary()
	for {
		switch {
		case p.at("("):
			p.wrap(api.NodeCall, p.parseArguments)
		case p.at("."):
			p.wrap(p.memberKind(), p.parseMember)
		default:
			return
		}
	}
}

// parseArguments parses the arguments of a call in their parentheses.
func (p *parser) parseArguments() {
	p.take()
	p.parseList(")", p.atExpression, p.parseExpression)
}

// memberKind returns the kind of the node to which the dot that is the next
// token belongs. A method call without a name is one, too.
func (p *parser) memberKind() int {
	behind := 1
	if p.peek(behind).Kind == api.TokenIdent {
		behind++
	}
	if p.peek(behind).Text == "(" {
		return api.NodeMethodCall
	}
	return api.NodeFieldAccess
}

func (p *parser) parseMember() {
	p.take()
	p.expectName()
	if p.at("(") {
		p.parseArguments()
	}
}

func (p *parser) parsePrimary() {
	switch p.peek(0).Kind {
	case api.TokenIdent:
		p.parsePathOrMacroCall()
		return
	case api.TokenInt:
		p.node(api.NodeInt, p.take)
		return
	case api.TokenString:
		p.node(api.NodeString, p.take)
		return
	}
	switch p.peek(0).Text {
	case "true", "false":
		p.node(api.NodeBool, p.take)
	case "(":
		p.node(api.NodeParen, p.parseParen)
	case "{":
		p.parseBlock()
	case "if":
		p.node(api.NodeIf, p.parseIf)
	case "match":
		p.node(api.NodeMatch, p.parseMatch)
	case "new":
		p.node(api.NodeStructLit, p.parseStructLit)
	case "|", "||":
		p.node(api.NodeLambda, p.parseLambda)
	default:
		p.addMissing()
	}
}

func (p *parser) parsePathOrMacroCall() {
	p.parsePath(p.parseSegment)
	if p.at("!") && p.peek(1).Text == "(" {
		p.wrap(api.NodeMacroCall, func() {
			p.take()
			p.parseArguments()
		})
	}
}

func (p *parser) parseParen() {
	p.take()
	p.parseExpression()
	p.expect(")")
}

func (p *parser) parseIf() {
	p.take()
	p.parseExpression()
	p.parseBlock()
	switch {
	case !p.accept("else"):
		p.addNone()
	case p.at("if"):
		p.node(api.NodeIf, p.parseIf)
	default:
		p.parseBlock()
	}
}

func (p *parser) parseMatch() {
	p.take()
	p.parseExpression()
	p.expect("{")
	p.parseList("}", p.atPattern, p.parseArm)
}

func (p *parser) parseArm() {
	p.node(api.NodeMatchArm, func() {
		p.parsePattern()
		p.expect("=>")
		p.parseExpression()
	})
}

func (p *parser) parseStructLit() {
	p.take()
	p.parsePath(p.parseSegment)
	p.expect("{")
	p.parseList("}", p.atName, p.parseFieldInit)
}

func (p *parser) parseFieldInit() {
	p.node(api.NodeFieldInit, func() {
		p.expectName()
		p.expect(":")
		p.parseExpression()
	})
}

func (p *parser) parseLambda() {
	if p.accept("||") {
		p.add(api.SyntaxTree{Kind: api.NodeParams})
	} else {
		p.take()
		p.parseParams("|")
	}
	p.parseExpression()
}
