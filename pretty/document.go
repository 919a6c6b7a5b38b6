package pretty

import (
	"strings"

	"glossator/api"
)

// nodesLeft returns how many more nodes the limit allows behind a document, or
// -1 if the document has more than limit nodes or is deeper than depth. It
// stops where a limit is exceeded: a document that shares children with itself
// can have far more nodes than the memory, or no end.
func nodesLeft(doc api.Doc, limit, depth int) int {
	if limit == 0 || depth == 0 {
		return -1
	}
	limit--
	for _, child := range doc.Children {
		limit = nodesLeft(child, limit, depth-1)
		if limit < 0 {
			return -1
		}
	}
	return limit
}

// wellFormed reports whether every node of a document has the parts that its
// kind allows.
func wellFormed(doc api.Doc) bool {
	if !wellFormedNode(doc) {
		return false
	}
	for _, child := range doc.Children {
		if !wellFormed(child) {
			return false
		}
	}
	return true
}

// wellFormedNode checks a node without its children.
func wellFormedNode(doc api.Doc) bool {
	if strings.Contains(doc.Text, "\n") {
		return false
	}
	switch doc.Kind {
	case api.DocText, api.DocLine, api.DocHardLine:
		return len(doc.Children) == 0
	case api.DocNest:
		return doc.Indent >= 0 && doc.Indent <= maxIndent
	case api.DocGroup, api.DocConcat:
		return true
	}
	return false
}

// piece is a text, a line or a group of a document.
type piece struct {
	kind   int
	text   string // of a DocText, and of a DocLine that is flat
	indent int    // of a line that is broken
	// The rest is that of a group. Its own pieces are those that follow it in
	// front of the index end.
	end    int
	width  int  // number of bytes of the flat group
	broken bool // the group cannot be flat
}

// piecesOf returns the pieces of a document in document order.
func piecesOf(doc api.Doc) []piece {
	var pieces []piece
	add(&pieces, doc, 0)
	return pieces
}

// add appends the pieces of a document with an indentation. It returns the
// number of bytes of the flat document, and whether it cannot be flat.
func add(pieces *[]piece, doc api.Doc, indent int) (width int, broken bool) {
	index := len(*pieces)
	switch doc.Kind {
	case api.DocText, api.DocLine:
		*pieces = append(*pieces, piece{kind: doc.Kind, text: doc.Text, indent: indent})
		return len(doc.Text), false
	case api.DocHardLine:
		*pieces = append(*pieces, piece{kind: doc.Kind, indent: indent})
		return 0, true
	case api.DocNest:
		indent += doc.Indent
	case api.DocGroup:
		*pieces = append(*pieces, piece{kind: doc.Kind})
	}
	for _, child := range doc.Children {
		childWidth, childBroken := add(pieces, child, indent)
		width += childWidth
		broken = broken || childBroken
	}
	if doc.Kind == api.DocGroup {
		group := &(*pieces)[index]
		group.end, group.width, group.broken = len(*pieces), width, broken
	}
	return width, broken
}
