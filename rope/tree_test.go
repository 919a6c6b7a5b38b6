package rope

import (
	"math"
	"math/rand"
	"strings"
	"testing"
)

// checkTree checks that the fields of every node agree with its children, and
// that the tree is an AVL tree with small leaves.
func checkTree(t *testing.T, n *node) {
	t.Helper()
	if n == nil {
		return
	}
	if n.left == nil || n.right == nil {
		if *n != (node{text: n.text, length: len(n.text), leaves: 1}) || n.text == "" || len(n.text) > maxLeaf {
			t.Fatalf("not a leaf: %+v", *n)
		}
		return
	}
	checkTree(t, n.left)
	checkTree(t, n.right)
	difference := n.left.height - n.right.height
	want := node{
		left:   n.left,
		right:  n.right,
		length: n.left.length + n.right.length,
		height: max(n.left.height, n.right.height) + 1,
		leaves: n.left.leaves + n.right.leaves,
	}
	if *n != want || difference < -1 || difference > 1 {
		t.Fatalf("not a node of an AVL tree: %+v, heights of the children %d and %d", *n, n.left.height, n.right.height)
	}
}

// tallest returns the AVL tree of the given height with the fewest leaves. The
// left subtrees are the higher ones if leftHigh is true.
func tallest(height int, leftHigh bool) *node {
	if height == 0 {
		return leaf(strings.Repeat("x", maxLeaf))
	}
	if height == 1 {
		return inner(tallest(0, leftHigh), tallest(0, leftHigh))
	}
	high, low := tallest(height-1, leftHigh), tallest(height-2, leftHigh)
	if leftHigh {
		return inner(high, low)
	}
	return inner(low, high)
}

// fullest returns the AVL tree of the given height with the most leaves.
func fullest(height int) *node {
	if height == 0 {
		return leaf("y")
	}
	return inner(fullest(height-1), fullest(height-1))
}

// trees returns trees of many shapes.
func trees() []*node {
	all := []*node{nil}
	for height := range 9 {
		all = append(all, tallest(height, false), tallest(height, true), fullest(height))
	}
	for length := 1; length <= 40*maxLeaf; length += 7 {
		all = append(all, build(strings.Repeat("z", length)))
	}
	return all
}

func heightOf(n *node) int {
	if n == nil {
		return 0
	}
	return n.height
}

func lengthOf(n *node) int {
	if n == nil {
		return 0
	}
	return n.length
}

func TestJoinIsBalanced(t *testing.T) {
	for _, left := range trees() {
		for _, right := range trees() {
			joined := join(left, right)
			checkTree(t, joined)
			higher := max(heightOf(left), heightOf(right))
			if got := heightOf(joined); got != higher && got != higher+1 {
				t.Fatalf("join of the heights %d and %d: height %d", heightOf(left), heightOf(right), got)
			}
			if got := lengthOf(joined); got != lengthOf(left)+lengthOf(right) {
				t.Fatalf("join of %d and %d bytes: %d bytes", lengthOf(left), lengthOf(right), got)
			}
		}
	}
}

// endLeaf returns the first or the last leaf of a tree.
func endLeaf(n *node, last bool) *node {
	for !n.isLeaf() {
		if last {
			n = n.right
		} else {
			n = n.left
		}
	}
	return n
}

// A leaf that is joined with a tree of any height is merged with the leaf next
// to it if both fit in one.
func TestJoinMergesLeaves(t *testing.T) {
	for _, n := range trees()[1:] {
		for _, length := range []int{1, maxLeaf / 2, maxLeaf} {
			added := leaf(strings.Repeat("a", length))
			for _, last := range []bool{false, true} {
				left, right := added, n
				if last {
					left, right = n, added
				}
				want := n.leaves + 1
				if endLeaf(n, last).length+length <= maxLeaf {
					want = n.leaves
				}
				if got := join(left, right); got.leaves != want {
					t.Errorf("height %d, %d bytes, at the end %t: %d leaves, want %d", n.height, length, last, got.leaves, want)
				}
			}
		}
	}
}

func TestSplitIsBalanced(t *testing.T) {
	for _, n := range trees() {
		for i := 0; i <= lengthOf(n); i += 1 + i%maxLeaf {
			front, back := n.split(i)
			checkTree(t, front)
			checkTree(t, back)
			if lengthOf(front) != i || lengthOf(back) != lengthOf(n)-i {
				t.Fatalf("split(%d) of %d bytes: %d and %d bytes", i, lengthOf(n), lengthOf(front), lengthOf(back))
			}
		}
	}
}

func TestBuildIsBalanced(t *testing.T) {
	for length := range 100 * maxLeaf {
		checkTree(t, build(strings.Repeat("x", length)))
	}
}

// newNodes returns the number of nodes of a tree that are not known.
func newNodes(n *node, known map[*node]bool) int {
	if n == nil || known[n] {
		return 0
	}
	return 1 + newNodes(n.left, known) + newNodes(n.right, known)
}

// nodesOf returns the nodes of trees.
func nodesOf(trees ...*node) map[*node]bool {
	known := map[*node]bool{}
	var add func(*node)
	add = func(n *node) {
		if n != nil && !known[n] {
			known[n] = true
			add(n.left)
			add(n.right)
		}
	}
	for _, n := range trees {
		add(n)
	}
	return known
}

// A result has new nodes along a path from the root only, and shares all others
// with the operands.
func TestSubtreesAreShared(t *testing.T) {
	random := rand.New(rand.NewSource(1))
	n := build(strings.Repeat("x", 1000*maxLeaf))
	for range 300 {
		front, back := n.split(random.Intn(n.length + 1))
		joined := join(back, front)
		limit := 4 * (n.height + 1)
		if got := newNodes(front, nodesOf(n)) + newNodes(back, nodesOf(n)); got > limit {
			t.Fatalf("split made %d nodes, height %d", got, n.height)
		}
		if got := newNodes(joined, nodesOf(front, back)); got > limit {
			t.Fatalf("join made %d nodes, height %d", got, n.height)
		}
		checkTree(t, joined)
		n = joined
	}
}

func TestCappedSum(t *testing.T) {
	for _, c := range []struct{ a, b, want int }{
		{0, 0, 0},
		{2, 3, 5},
		{math.MaxInt, 0, math.MaxInt},
		{0, math.MaxInt, math.MaxInt},
		{math.MaxInt - 3, 3, math.MaxInt},
		{math.MaxInt - 3, 4, math.MaxInt},
		{math.MaxInt, math.MaxInt, math.MaxInt},
	} {
		if got := cappedSum(c.a, c.b); got != c.want {
			t.Errorf("cappedSum(%d, %d) = %d, want %d", c.a, c.b, got, c.want)
		}
	}
}
