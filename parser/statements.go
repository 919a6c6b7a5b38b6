package parser

import "glossator/api"

func (p *parser) parseBlock() {
	p.node(api.NodeBlock, func() {
		p.expect("{")
		hasValue := false
		for !p.at("}") && !p.atEnd() && !startsItem(p.peek(0)) {
			hasValue = p.parseStatement()
		}
		if !hasValue {
			p.addNone()
		}
		p.expect("}")
	})
}

// parseStatement parses a statement or the value of a block, and reports
// whether it is the value. Then the token that ends the block is next.
func (p *parser) parseStatement() bool {
	switch {
	case p.at("let"):
		p.node(api.NodeLet, p.parseLet)
	case p.at("while"):
		p.node(api.NodeWhile, p.parseWhile)
	case p.at("return"):
		p.node(api.NodeReturn, p.parseReturn)
	case p.at("if"), p.at("match"), p.at("{"):
		p.parsePrimary()
		if p.at("}") {
			return true
		}
		p.wrap(api.NodeExprStmt, func() { p.accept(";") })
	case p.atExpression():
		return p.parseExpressionStatement()
	default:
		p.parseUnexpected()
	}
	return false
}

// parseExpressionStatement is parseStatement for a statement that starts with
// any other expression.
func (p *parser) parseExpressionStatement() bool {
	p.parseExpression()
	switch {
	case p.at("}"):
		return true
	case p.at("="):
		p.wrap(api.NodeAssign, func() {
			p.take()
			p.parseExpression()
			p.expect(";")
		})
	default:
		p.wrap(api.NodeExprStmt, func() { p.expect(";") })
	}
	return false
}

func (p *parser) parseLet() {
	p.take()
	p.parsePattern()
	p.parseOptionalType(":")
	p.expect("=")
	p.parseExpression()
	p.expect(";")
}

func (p *parser) parseWhile() {
	p.take()
	p.parseExpression()
	p.parseBlock()
}

func (p *parser) parseReturn() {
	p.take()
	if p.atExpression() {
		p.parseExpression()
	} else {
		p.addNone()
	}
	p.expect(";")
}

// atPattern reports whether a pattern can start at the next token.
func (p *parser) atPattern() bool {
	return p.atName() || p.at("mut") || p.atLiteral()
}

// atLiteral reports whether the next token is a literal that is a pattern.
func (p *parser) atLiteral() bool {
	return p.peek(0).Kind == api.TokenInt || p.at("true") || p.at("false")
}

func (p *parser) parsePattern() {
	behind := p.peek(1).Text
	switch {
	case p.at("_"):
		p.node(api.NodeWildcard, p.take)
	case p.at("mut"):
		p.node(api.NodeBinding, func() {
			p.take()
			p.expectName()
		})
	case p.atName() && (behind == "(" || behind == "::"):
		p.node(api.NodeVariantMatch, p.parseVariantMatch)
	case p.atName():
		p.node(api.NodeBinding, p.take)
	case p.atLiteral():
		p.parsePrimary()
	default:
		p.addMissing()
	}
}

func (p *parser) parseVariantMatch() {
	p.parsePath(p.parseSegment)
	if p.accept("(") {
		p.parseList(")", p.atPattern, p.parsePattern)
	}
}
