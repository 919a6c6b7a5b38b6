package ast

import "glossator/api"

// PathAt returns the indices of the children that lead from node to the
// innermost node at the offset. It returns nil if they would have no end,
// because the tree contains itself.
func PathAt(node api.Node, offset int) []int {
	var path []int
	visited := map[*api.Node]bool{}
	for children := node.Children; ; {
		index := childAt(children, offset)
		if index < 0 {
			return path
		}
		child := &children[index]
		if visited[child] {
			return nil
		}
		visited[child] = true
		path = append(path, index)
		children = child.Children
	}
}

// childAt returns the index of the first node that covers the byte at offset,
// or -1.
func childAt(nodes []api.Node, offset int) int {
	for i, node := range nodes {
		if node.Start <= offset && offset < node.End {
			return i
		}
	}
	return -1
}

// endless is the number of nodes from which on a tree counts as one without an
// end.
const endless = api.MaxInt

// StripPositions returns a copy of a tree without the positions. It returns an
// empty node for a tree that has no end, because it contains itself.
func StripPositions(node api.Node) api.Node {
	if size(&node, map[*api.Node]int{}) == endless {
		return api.Node{}
	}
	return stripped(node)
}

// size returns the number of nodes of a tree and adds the sizes of all subtrees
// to sizes. A tree that shares children with itself can have far more nodes
// than the memory, or no end, so each node is visited once.
func size(node *api.Node, sizes map[*api.Node]int) int {
	if known, visited := sizes[node]; visited {
		return known
	}
	// What a node that contains itself finds here until its size is known.
	sizes[node] = endless
	total := 1
	for i := range node.Children {
		total = min(endless, total+size(&node.Children[i], sizes))
	}
	sizes[node] = total
	return total
}

// stripped is StripPositions for a tree that has an end.
func stripped(node api.Node) api.Node {
	node.Start, node.End, node.NameStart = 0, 0, -1
	children := make([]api.Node, len(node.Children))
	for i, child := range node.Children {
		children[i] = stripped(child)
	}
	node.Children = children
	return node
}

// pair is two nodes that are compared.
type pair struct{ a, b *api.Node }

// Equal reports whether two trees are equal except for the positions.
func Equal(a, b api.Node) bool { return equal(pair{&a, &b}, map[pair]bool{}) }

// equal reports whether two nodes are equal. It passes over pairs that it has
// compared before: if they differ, the result is false anyway, and in trees
// that contain themselves the comparison would have no end.
func equal(nodes pair, compared map[pair]bool) bool {
	a, b := nodes.a, nodes.b
	if a.Kind != b.Kind || a.Value != b.Value || a.Text != b.Text || len(a.Children) != len(b.Children) {
		return false
	}
	if compared[nodes] {
		return true
	}
	compared[nodes] = true
	for i := range a.Children {
		if !equal(pair{&a.Children[i], &b.Children[i]}, compared) {
			return false
		}
	}
	return true
}
