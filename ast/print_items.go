package ast

import "glossator/api"

// printItem writes a file or an item.
func (p *printer) printItem(node api.Node) {
	if node.Value&api.FlagPublic != 0 {
		p.tokens("pub")
	}
	switch node.Kind {
	case api.NodeFile:
		p.sequence(node.Children)
	case api.NodeUse:
		p.printUse(node)
	case api.NodeFunc:
		p.printFunc(node)
	case api.NodeStruct:
		p.tokens("struct", node.Text)
		p.part(node, 0)
		p.bracketed("{", from(node, 1), "}")
	case api.NodeEnum:
		p.tokens("enum", node.Text)
		p.part(node, 0)
		p.bracketed("{", from(node, 1), "}")
	case api.NodeTrait:
		p.tokens("trait", node.Text)
		p.printMembers(node.Children)
	case api.NodeImpl:
		p.printImpl(node)
	case api.NodeConst:
		p.tokens("const", node.Text, ":")
		p.part(node, 0)
		p.printDefinition(node)
	case api.NodeMacro:
		p.tokens("macro", node.Text, "(")
		p.part(node, 0)
		p.tokens(")")
		p.printDefinition(node)
	}
}

func (p *printer) printUse(node api.Node) {
	p.tokens("use")
	p.part(node, 0)
	if node.Value&api.FlagGlob != 0 {
		p.tokens("::", "*")
	}
	if node.Text != "" {
		p.tokens("as", node.Text)
	}
	p.tokens(";")
}

func (p *printer) printFunc(node api.Node) {
	p.tokens("fn", node.Text)
	p.part(node, 0)
	p.tokens("(")
	p.part(node, 1)
	p.tokens(")")
	p.optional("->", node, 2)
	if kindOf(node, 3) == api.NodeNone {
		p.tokens(";")
	} else {
		p.part(node, 3)
	}
}

func (p *printer) printImpl(node api.Node) {
	p.tokens("impl")
	p.part(node, 0)
	if kindOf(node, 1) != api.NodeNone {
		p.part(node, 1)
		p.tokens("for")
	}
	p.part(node, 2)
	p.printMembers(from(node, 3))
}

func (p *printer) printMembers(members []api.Node) {
	p.tokens("{")
	p.sequence(members)
	p.tokens("}")
}

// printDefinition writes the expression of a constant or a macro.
func (p *printer) printDefinition(node api.Node) {
	p.tokens("=")
	p.part(node, 1)
	p.tokens(";")
}

// printPartOfItem writes a declaration inside an item.
func (p *printer) printPartOfItem(node api.Node) {
	switch node.Kind {
	case api.NodeTypeParams:
		p.nonempty("<", node.Children, ">")
	case api.NodeTypeParam:
		p.tokens(node.Text)
		if len(node.Children) > 0 {
			p.tokens(":")
		}
		p.list(node.Children, "+")
	case api.NodeParams:
		p.list(node.Children, ",")
	case api.NodeParam:
		p.tokens(node.Text)
		p.optional(":", node, 0)
	case api.NodeField:
		p.tokens(node.Text, ":")
		p.part(node, 0)
	case api.NodeVariant:
		p.tokens(node.Text)
		p.nonempty("(", node.Children, ")")
	case api.NodeAssocType:
		p.tokens("type", node.Text)
		p.optional("=", node, 0)
		p.tokens(";")
	}
}

// printType writes a type, a path or a segment of one.
func (p *printer) printType(node api.Node) {
	switch node.Kind {
	case api.NodePath:
		p.list(node.Children, "::")
	case api.NodeSegment:
		p.tokens(node.Text)
		p.nonempty("<", node.Children, ">")
	case api.NodeRefType:
		p.tokens("&")
		p.mutable(node)
		p.part(node, 0)
	case api.NodeFuncType:
		result := max(0, len(node.Children)-1)
		p.tokens("fn")
		p.bracketed("(", node.Children[:result], ")")
		p.optional("->", node, result)
	}
}
