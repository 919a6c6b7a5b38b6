package parser

import (
	"slices"

	"glossator/api"
)

// parseFile parses the items of a source and the tokens behind them.
func (p *parser) parseFile() {
	for !p.atEnd() {
		if kind, parse := p.nextItem(); parse == nil {
			p.node(api.NodeError, p.skipToItem)
		} else {
			p.node(kind, func() {
				p.accept("pub")
				p.take()
				parse()
			})
		}
	}
	p.takeTo(len(p.tokens))
}

// startsItem reports whether a token is a keyword that starts an item.
func startsItem(token api.Token) bool {
	switch token.Text {
	case "pub", "use", "fn", "struct", "enum", "trait", "impl", "const", "macro":
		return true
	}
	return false
}

// nextItem returns the kind of the item that starts at the next tokens and the
// method that parses it behind its keyword, which is nil if no item starts.
func (p *parser) nextItem() (kind int, parse func()) {
	keyword := p.peek(0).Text
	if keyword == "pub" {
		keyword = p.peek(1).Text
	}
	switch keyword {
	case "use":
		return api.NodeUse, p.parseUse
	case "fn":
		return api.NodeFunc, p.parseFunc
	case "struct":
		return api.NodeStruct, p.parseStruct
	case "enum":
		return api.NodeEnum, p.parseEnum
	case "trait":
		return api.NodeTrait, p.parseTrait
	case "impl":
		return api.NodeImpl, p.parseImpl
	case "const":
		return api.NodeConst, p.parseConst
	case "macro":
		return api.NodeMacro, p.parseMacro
	}
	return api.NodeError, nil
}

// skipToItem takes the next token and all others before an item.
func (p *parser) skipToItem() {
	p.take()
	for !p.atEnd() && !startsItem(p.peek(0)) {
		p.take()
	}
}

func (p *parser) parseUse() {
	p.node(api.NodePath, func() {
		p.parseSegment()
		for p.at("::") && p.peek(1).Text != "*" {
			p.take()
			p.parseSegment()
		}
	})
	if p.accept("::") {
		p.take() // the *, because the path would have gone on otherwise
	} else if p.accept("as") {
		p.expectName()
	}
	p.expect(";")
}

func (p *parser) parseFunc() {
	p.parseSignature()
	p.parseBlock()
}

// parseSignature parses a function from its name to its result type.
func (p *parser) parseSignature() {
	p.expectName()
	p.parseTypeParams()
	p.expect("(")
	p.parseParams(")")
	p.parseOptionalType("->")
}

func (p *parser) parseStruct() {
	p.expectName()
	p.parseTypeParams()
	p.expect("{")
	p.parseList("}", p.atName, p.parseField)
}

func (p *parser) parseField() {
	p.node(api.NodeField, func() {
		p.expectName()
		p.expect(":")
		p.parseType()
	})
}

func (p *parser) parseEnum() {
	p.expectName()
	p.parseTypeParams()
	p.expect("{")
	p.parseList("}", p.atName, p.parseVariant)
}

func (p *parser) parseVariant() {
	p.node(api.NodeVariant, func() {
		p.expectName()
		if p.accept("(") {
			p.parseTypes(")")
		}
	})
}

func (p *parser) parseTrait() {
	p.expectName()
	p.parseMembers()
}

func (p *parser) parseImpl() {
	p.parseTypeParams()
	first := len(p.children)
	p.parseType()
	if p.accept("for") {
		p.parseType()
	} else {
		// What has been parsed is the type, and there is no trait before it.
		p.children = slices.Insert(p.children, first, api.SyntaxTree{Kind: api.NodeNone})
	}
	p.parseMembers()
}

// parseMembers parses the members of a trait or an impl in their braces.
func (p *parser) parseMembers() {
	p.expect("{")
	for {
		switch {
		case p.at("type"):
			p.node(api.NodeAssocType, p.parseAssocType)
		case p.at("fn"):
			p.node(api.NodeFunc, p.parseMethod)
		default:
			p.expect("}")
			return
		}
	}
}

func (p *parser) parseAssocType() {
	p.take()
	p.expectName()
	p.parseOptionalType("=")
	p.expect(";")
}

func (p *parser) parseMethod() {
	p.take()
	p.parseSignature()
	if p.accept(";") {
		p.addNone()
	} else {
		p.parseBlock()
	}
}

func (p *parser) parseConst() {
	p.expectName()
	p.expect(":")
	p.parseType()
	p.expect("=")
	p.parseExpression()
	p.expect(";")
}

func (p *parser) parseMacro() {
	p.expectName()
	p.expect("(")
	p.parseParams(")")
	p.expect("=")
	p.parseExpression()
	p.expect(";")
}

// parseParams parses parameters and the token that ends them.
func (p *parser) parseParams(closing string) {
	p.node(api.NodeParams, func() { p.parseList(closing, p.atName, p.parseParam) })
}

func (p *parser) parseParam() {
	p.node(api.NodeParam, func() {
		p.expectName()
		p.parseOptionalType(":")
	})
}
