package parser

import "glossator/api"

// atType reports whether a type can start at the next token.
func (p *parser) atType() bool { return p.at("&") || p.at("fn") || p.atName() }

func (p *parser) parseType() {
	switch {
	case p.at("&"):
		p.node(api.NodeRefType, func() {
			p.take()
			p.accept("mut")
			p.parseType()
		})
	case p.at("fn"):
		p.node(api.NodeFuncType, func() {
			p.take()
			p.expect("(")
			p.parseTypes(")")
			p.parseOptionalType("->")
		})
	case p.atName():
		p.parsePath(p.parseTypeSegment)
	default:
		p.addMissing()
	}
}

// parseOptionalType parses a type if the next token is the one that precedes
// it.
func (p *parser) parseOptionalType(before string) {
	if p.accept(before) {
		p.parseType()
	} else {
		p.addNone()
	}
}

// parseTypes parses a list of types.
func (p *parser) parseTypes(closing string) { p.parseList(closing, p.atType, p.parseType) }

// parseTypeParams parses type parameters, which are always optional.
func (p *parser) parseTypeParams() {
	p.node(api.NodeTypeParams, func() {
		if p.accept("<") {
			p.parseList(">", p.atName, p.parseTypeParam)
		}
	})
}

func (p *parser) parseTypeParam() {
	p.node(api.NodeTypeParam, func() {
		p.expectName()
		if !p.accept(":") {
			return
		}
		p.parsePath(p.parseTypeSegment)
		for p.accept("+") {
			p.parsePath(p.parseTypeSegment)
		}
	})
}

// parsePath parses a path with the given kind of segments.
func (p *parser) parsePath(parseSegment func()) {
	p.node(api.NodePath, func() {
		parseSegment()
		for p.accept("::") {
			parseSegment()
		}
	})
}

// parseSegment parses a segment of a path that has no type arguments.
func (p *parser) parseSegment() { p.node(api.NodeSegment, p.expectName) }

// parseTypeSegment parses a segment of the path of a type.
func (p *parser) parseTypeSegment() {
	p.node(api.NodeSegment, func() {
		p.expectName()
		if p.accept("<") {
			p.parseTypes(">")
		}
	})
}
