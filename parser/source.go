package parser

import (
	"strings"

	"glossator/api"
)

// endless is the length from which on a source counts as one without an end.
const endless = api.MaxInt

// Source returns the concatenation of the texts of all tokens of a tree, or ""
// if it would be endless.
func Source(tree api.SyntaxTree) string {
	lengths := map[*api.SyntaxTree]int{}
	length := lengthOf(&tree, lengths)
	if length == endless {
		return ""
	}
	var text strings.Builder
	text.Grow(length)
	writeSource(&text, &tree, lengths)
	return text.String()
}

// lengthOf returns the length of the source of a tree and adds the lengths of
// all subtrees to lengths. A tree that shares children with itself can have far
// more nodes than the memory, or no end, so each node is visited once.
func lengthOf(tree *api.SyntaxTree, lengths map[*api.SyntaxTree]int) int {
	if length, visited := lengths[tree]; visited {
		return length
	}
	// What a node that contains itself finds here until its length is known.
	lengths[tree] = endless
	length := min(endless, len(tokenText(tree)))
	for i := range tree.Children {
		length = min(endless, length+lengthOf(&tree.Children[i], lengths))
	}
	lengths[tree] = length
	return length
}

// writeSource writes the source of a tree. It passes over subtrees without a
// text, of which there can be far more than bytes in the source.
func writeSource(text *strings.Builder, tree *api.SyntaxTree, lengths map[*api.SyntaxTree]int) {
	if lengths[tree] == 0 {
		return
	}
	text.WriteString(tokenText(tree))
	for i := range tree.Children {
		writeSource(text, &tree.Children[i], lengths)
	}
}

// tokenText returns the text of a token, and nothing for other nodes.
func tokenText(tree *api.SyntaxTree) string {
	if tree.Kind < api.TokenEOF {
		return ""
	}
	return tree.Text
}
