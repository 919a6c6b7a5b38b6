package ast

import "glossator/api"

// Print returns a source whose tree is equal to node except for the positions.
func Print(node api.Node) (string, api.Errno) {
	nodes := 0
	if !fits(&node, 1, &nodes) {
		return "", api.ErrTooLarge
	}
	p := &printer{}
	p.print(node)
	if len(p.text) > api.MaxSource {
		return "", api.ErrTooLarge
	}
	// The printer trusts the tree, so only the tree of the text tells whether
	// there is a source for it.
	src := string(p.text)
	tree, diagnostics, err := Parse(src)
	if err != api.OK || len(diagnostics) > 0 || !Equal(tree, node) {
		return "", api.ErrMalformed
	}
	return src, api.OK
}

// Validate returns the error of Print.
func Validate(node api.Node) api.Errno {
	_, err := Print(node)
	return err
}

// fits reports whether the tree of a node at a depth keeps to the limits of
// printed trees, and counts its nodes.
func fits(node *api.Node, depth int, nodes *int) bool {
	*nodes++
	if *nodes > api.MaxNodes || depth > api.MaxDepth {
		return false
	}
	for i := range node.Children {
		if !fits(&node.Children[i], depth+1, nodes) {
			return false
		}
	}
	return true
}

// printer writes a tree. It writes something for every tree, also for one that
// no source has.
type printer struct{ text []byte }

// tokens writes tokens with single spaces between them. A text that is too long
// already does not become longer.
func (p *printer) tokens(texts ...string) {
	for _, text := range texts {
		if len(p.text) > api.MaxSource {
			return
		}
		if len(p.text) > 0 {
			p.text = append(p.text, ' ')
		}
		p.text = append(p.text, text...)
	}
}

// print writes a node. For an absent part and an error it writes nothing.
func (p *printer) print(node api.Node) {
	switch kind := node.Kind; {
	case kind <= api.NodeMacro:
		p.printItem(node)
	case kind <= api.NodeAssocType:
		p.printPartOfItem(node)
	case kind <= api.NodeFuncType:
		p.printType(node)
	case kind <= api.NodeExprStmt:
		p.printStatement(node)
	case kind <= api.NodeMacroCall:
		p.printExpression(node)
	default:
		p.printPattern(node)
	}
}

// kindOf returns the kind of the child of a node with an index. A child that
// the node does not have is an absent one.
func kindOf(node api.Node, index int) int {
	if index < 0 || index >= len(node.Children) {
		return api.NodeNone
	}
	return node.Children[index].Kind
}

// part writes the child of a node with an index.
func (p *printer) part(node api.Node, index int) {
	if kindOf(node, index) != api.NodeNone {
		p.print(node.Children[index])
	}
}

// optional writes the child of a node with an index behind a token, if it is
// there.
func (p *printer) optional(before string, node api.Node, index int) {
	if kindOf(node, index) != api.NodeNone {
		p.tokens(before)
		p.part(node, index)
	}
}

// grouped writes the child of a node with an index, in parentheses unless it is
// bare.
func (p *printer) grouped(node api.Node, index int, bare bool) {
	if bare {
		p.part(node, index)
		return
	}
	p.tokens("(")
	p.part(node, index)
	p.tokens(")")
}

// sequence writes nodes one after the other.
func (p *printer) sequence(nodes []api.Node) {
	for _, node := range nodes {
		p.print(node)
	}
}

// list writes nodes with a token between them.
func (p *printer) list(nodes []api.Node, between string) {
	for i, node := range nodes {
		if i > 0 {
			p.tokens(between)
		}
		p.print(node)
	}
}

// bracketed writes nodes with commas between them in brackets.
func (p *printer) bracketed(opening string, nodes []api.Node, closing string) {
	p.tokens(opening)
	p.list(nodes, ",")
	p.tokens(closing)
}

// nonempty writes nodes like bracketed, and nothing if there are none.
func (p *printer) nonempty(opening string, nodes []api.Node, closing string) {
	if len(nodes) > 0 {
		p.bracketed(opening, nodes, closing)
	}
}

// from returns the children of a node from an index on.
func from(node api.Node, index int) []api.Node {
	return node.Children[min(index, len(node.Children)):]
}

// mutable writes mut if the value of a node has its flag.
func (p *printer) mutable(node api.Node) {
	if node.Value&api.FlagMutable != 0 {
		p.tokens("mut")
	}
}
