package greentree

import "glossator/api"

// content is what distinguishes a node from the others of its arena. The width
// is not part of it, because it follows from the text and the children.
type content struct {
	kind int
	text string
	// children holds the index of each child in two bytes: a slice cannot be
	// part of the key of a map, and an arena and a tree that is added to it
	// have fewer nodes than two bytes can tell.
	children string
}

func contentOf(kind int, text string, children []int) content {
	encoded := make([]byte, 0, 2*len(children))
	for _, child := range children {
		encoded = append(encoded, byte(child>>8), byte(child))
	}
	return content{kind, text, string(encoded)}
}

// indexNodes checks an arena and returns the index of each of its nodes.
func indexNodes(arena api.GreenArena) (map[content]int, api.Errno) {
	if len(arena.Nodes) > maxNodes {
		return nil, api.ErrTooLarge
	}
	indices := map[content]int{}
	for i, node := range arena.Nodes {
		if !validNode(arena.Nodes, i) {
			return nil, api.ErrMalformed
		}
		key := contentOf(node.Kind, node.Text, node.Children)
		if _, found := indices[key]; found {
			return nil, api.ErrMalformed
		}
		indices[key] = i
	}
	return indices, api.OK
}

// validNode checks the node with an index by itself and against its children.
func validNode(nodes []api.GreenNode, index int) bool {
	node := nodes[index]
	for _, child := range node.Children {
		if child < 0 || child >= index {
			return false
		}
	}
	return wellFormed(node.Kind, node.Text, len(node.Children)) &&
		node.Width == widthOf(nodes, node.Text, node.Children)
}

// widthOf returns the width of a node. A sum beyond the greatest int wraps
// around, as the document asks: few nodes that share children suffice for it.
func widthOf(nodes []api.GreenNode, text string, children []int) int {
	width := len(text)
	for _, child := range children {
		width += nodes[child].Width
	}
	return width
}

// copyNodes returns nodes that share no memory with the given ones.
func copyNodes(nodes []api.GreenNode) []api.GreenNode {
	copies := make([]api.GreenNode, 0, len(nodes))
	for _, node := range nodes {
		node.Children = append([]int(nil), node.Children...)
		copies = append(copies, node)
	}
	return copies
}

// builder is an arena that grows. Indices has the index of each of its nodes.
type builder struct {
	nodes   []api.GreenNode
	indices map[content]int
}

// add returns the index of a tree, and appends those of its nodes that are
// missing.
func (b *builder) add(tree api.SyntaxTree) int {
	var children []int
	for _, child := range tree.Children {
		children = append(children, b.add(child))
	}
	key := contentOf(tree.Kind, tree.Text, children)
	if index, found := b.indices[key]; found {
		return index
	}
	index := len(b.nodes)
	b.indices[key] = index
	b.nodes = append(b.nodes, api.GreenNode{
		Kind:     tree.Kind,
		Width:    widthOf(b.nodes, tree.Text, children),
		Text:     tree.Text,
		Children: children,
	})
	return index
}
