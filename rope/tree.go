package rope

import (
	"math"
	"strings"
)

// maxLeaf is the greatest number of bytes of a leaf.
const maxLeaf = 32

// node is an AVL tree whose leaves hold a string that is not empty. A leaf has
// a text, an inner node has two children. Nodes are never changed, because
// ropes share them. A nil node stands for the empty string.
type node struct {
	text        string
	left, right *node
	length      int // bytes, at most math.MaxInt
	height      int
	leaves      int // at most math.MaxInt
}

// leaf returns a leaf, or nil if there is nothing for it to hold.
func leaf(text string) *node {
	if text == "" {
		return nil
	}
	return &node{text: text, length: len(text), leaves: 1}
}

// inner returns an inner node. The heights of its children have to differ by
// at most one.
func inner(left, right *node) *node {
	return &node{
		left:   left,
		right:  right,
		length: cappedSum(left.length, right.length),
		height: max(left.height, right.height) + 1,
		leaves: cappedSum(left.leaves, right.leaves),
	}
}

// cappedSum returns the sum of two numbers that are not negative, or
// math.MaxInt if the sum is greater. A rope that is appended to itself again
// and again can reach it, since its subtrees take no further memory.
func cappedSum(a, b int) int {
	if a > math.MaxInt-b {
		return math.MaxInt
	}
	return a + b
}

func (n *node) isLeaf() bool { return n.height == 0 }

// build returns a tree of the given string. The lengths of two siblings differ
// by at most one, and therefore their heights, too.
func build(text string) *node {
	if len(text) <= maxLeaf {
		return leaf(strings.Clone(text))
	}
	middle := len(text) / 2
	return inner(build(text[:middle]), build(text[middle:]))
}

// writeTo appends the string of the tree to text.
func (n *node) writeTo(text *strings.Builder) {
	if n == nil {
		return
	}
	text.WriteString(n.text)
	n.left.writeTo(text)
	n.right.writeTo(text)
}

// byteAt returns the byte at an index that has to be in range.
func (n *node) byteAt(i int) byte {
	for !n.isLeaf() {
		if i < n.left.length {
			n = n.left
		} else {
			i -= n.left.length
			n = n.right
		}
	}
	return n.text[i]
}

// join returns the concatenation of two trees. Its height is that of the
// higher tree or one more, so the recursive calls return subtrees that
// balanced accepts.
func join(left, right *node) *node {
	switch {
	case left == nil:
		return right
	case right == nil:
		return left
	case left.isLeaf() && right.isLeaf():
		return joinLeaves(left, right)
	// A leaf is always taken down to its neighbor, because small leaves that
	// are next to each other should become one.
	case left.height > right.height+1 || right.isLeaf():
		return balanced(left.left, join(left.right, right))
	case right.height > left.height+1 || left.isLeaf():
		return balanced(join(left, right.left), right.right)
	}
	return inner(left, right)
}

// joinLeaves returns the concatenation of two leaves.
func joinLeaves(left, right *node) *node {
	if left.length+right.length <= maxLeaf {
		return leaf(left.text + right.text)
	}
	return inner(left, right)
}

// balanced returns the concatenation of two trees whose heights differ by at
// most two. It rotates them if they differ by two.
func balanced(left, right *node) *node {
	if left.height > right.height+1 {
		outer, middle := left.left, left.right
		if middle.height > outer.height {
			return inner(inner(outer, middle.left), inner(middle.right, right))
		}
		return inner(outer, inner(middle, right))
	}
	if right.height > left.height+1 {
		middle, outer := right.left, right.right
		if middle.height > outer.height {
			return inner(inner(left, middle.left), inner(middle.right, outer))
		}
		return inner(inner(left, middle), outer)
	}
	return inner(left, right)
}

// split returns the trees of the first i bytes and of the remaining bytes. The
// index has to be in range.
func (n *node) split(i int) (*node, *node) {
	switch {
	case i == 0:
		return nil, n
	case n.isLeaf():
		return leaf(n.text[:i]), leaf(n.text[i:])
	case i <= n.left.length:
		front, back := n.left.split(i)
		return front, join(back, n.right)
	}
	front, back := n.right.split(i - n.left.length)
	return join(n.left, front), back
}
